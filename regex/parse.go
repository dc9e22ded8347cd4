package regex

import "strings"

// fault: the place of what is wrong with a text. The parser panics with it, however deep inside it is, and Compile recovers.
type fault int

const (
	firstByte = 0x20 // of those that may stand in an expression
	lastByte  = 0x7e
	misplaced = "]*+?"         // with these no part begins
	notInner  = "][^-"         // these do not stand for themselves inside a class
	escapable = `()[]|*+?.-^\` // these stand for themselves behind a backslash
	hexDigits = "0123456789abcdef"
)

// sets: each escape that stands for several bytes, and these.
var sets = [...]struct{ escape, bytes string }{
	{`\d`, "0123456789"},
	{`\w`, "0123456789ABCDEFGHIJKLMNOPQRSTUVWXYZabcdefghijklmnopqrstuvwxyz_"},
	{`\s`, " \t\n\r"},
}

// parser: its methods read what the grammar's rule of their name says.
type parser struct {
	expr string
	at   int
	// thing: the place of the first byte of the thing that is being read, at which a fault in it is told.
	thing int
}

// parse: an expression as a tree.
func parse(expr string) part {
	p := parser{expr: expr}
	whole := p.expression()
	// What ends it ahead of the text's end is a bracket that closes nothing.
	p.thing = p.at
	p.must(p.at == len(expr))
	return whole
}

// must: what is asked holds, or the thing is the fault.
func (p *parser) must(holds bool) {
	if !holds {
		panic(fault(p.thing))
	}
}

// next: reads a byte.
func (p *parser) next() byte {
	p.must(p.at < len(p.expr))
	b := p.expr[p.at]
	p.must(b >= firstByte && b <= lastByte)
	p.at++
	return b
}

// skip: reads a text, if it stands there.
func (p *parser) skip(text string) bool {
	stands := strings.HasPrefix(p.expr[p.at:], text)
	if stands {
		p.at += len(text)
	}
	return stands
}

func (p *parser) expression() part {
	all := p.branch()
	for p.skip("|") {
		all = or{all, p.branch()}
	}
	return all
}

func (p *parser) branch() part {
	var all part = none{}
	for p.at < len(p.expr) && p.expr[p.at] != '|' && p.expr[p.at] != ')' {
		all = then{all, p.part()}
	}
	return all
}

func (p *parser) part() part {
	a := p.atom()
	for {
		switch {
		case p.skip("*"):
			a = star{a}
		case p.skip("+"):
			a = plus{a}
		case p.skip("?"):
			a = maybe{a}
		default:
			return a
		}
	}
}

func (p *parser) atom() part {
	p.thing = p.at
	if s, ok := p.set(); ok {
		return place{s}
	}
	switch b := p.next(); b {
	case '(':
		return p.bracketed()
	case '[':
		return place{p.class()}
	case '.':
		return place{span(0, 255)}
	case '\\':
		b = p.escaped()
		return place{span(b, b)}
	default:
		p.must(strings.IndexByte(misplaced, b) < 0)
		return place{span(b, b)}
	}
}

// bracketed: an expression and the bracket behind it.
func (p *parser) bracketed() part {
	inner := p.expression()
	// An expression ends at a closing bracket or at the text's end, which is then the fault's place.
	p.thing = p.at
	p.next()
	return inner
}

// class: what is behind its opening bracket.
func (p *parser) class() byteSet {
	others := p.skip("^")
	s := p.item()
	for !p.skip("]") {
		s = s.and(p.item())
	}
	if others {
		s = s.others()
	}
	p.must(s != byteSet{})
	return s
}

func (p *parser) item() byteSet {
	if s, ok := p.set(); ok {
		return s
	}
	low := p.one()
	high := low
	if p.skip("-") {
		high = p.one()
	}
	p.must(low <= high)
	return span(low, high)
}

func (p *parser) one() byte {
	b := p.next()
	if b == '\\' {
		return p.escaped()
	}
	p.must(strings.IndexByte(notInner, b) < 0)
	return b
}

// set: reads one, if it stands there.
func (p *parser) set() (byteSet, bool) {
	for _, s := range sets {
		if p.skip(s.escape) {
			return members(s.bytes), true
		}
	}
	return byteSet{}, false
}

// escaped: what is behind the backslash of an escape of one byte.
func (p *parser) escaped() byte {
	switch b := p.next(); b {
	case 'n':
		return '\n'
	case 't':
		return '\t'
	case 'r':
		return '\r'
	case 'x':
		high := p.digit()
		return high<<4 | p.digit()
	default:
		p.must(strings.IndexByte(escapable, b) >= 0)
		return b
	}
}

func (p *parser) digit() byte {
	value := strings.IndexByte(hexDigits, p.next())
	p.must(value >= 0)
	return byte(value)
}
