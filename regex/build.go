package regex

import (
	"slices"

	"augur/api"
)

// places: a set of places of an expression, a bit each: there are at most MaxRegex of them, as each has a byte of its own at least.
type places uint64

func (s places) has(p int) bool { return s>>p&1 == 1 }

// net: which place stands for what, and which can follow which.
type net struct {
	count   int
	stands  [256]places          // by the byte
	follows [api.MaxRegex]places // by the place ahead
}

// edge: what of a part can be seen from outside: can it be empty, and which of its places can be first and last.
type edge struct {
	empty       bool
	first, last places
}

// outlook: which places may come next, and whether the text may end.
type outlook struct {
	next places
	ends bool
}

// states: those that were met so far, by their numbers.
type states []outlook

// build: the automaton of an expression.
func build(expression part) (*DFA, api.Errno) {
	var n net
	whole := n.take(expression)
	met := states{{whole.first, whole.empty}}
	d := &DFA{}
	for i := 0; i < len(met); i++ {
		s := state{accepts: met[i].ends}
		for b := range s.next {
			s.next[b] = nowhere
			if ahead, ok := n.behind(met[i], b, whole.last); ok {
				s.next[b] = int8(met.number(ahead))
			}
			if len(met) > api.MaxStates {
				return nil, api.ErrStates
			}
		}
		d.states = append(d.states, s)
	}
	return d, api.OK
}

// take: the places of a part, and what follows what in it, join the net.
func (n *net) take(p part) edge {
	switch p := p.(type) {
	case place:
		return n.takePlace(p)
	case then:
		a, b := n.take(p.a), n.take(p.b)
		n.link(a.last, b.first)
		return joined(a, b)
	case or:
		a, b := n.take(p.a), n.take(p.b)
		return edge{a.empty || b.empty, a.first | b.first, a.last | b.last}
	case star:
		a := n.takeAgain(p.a)
		return edge{true, a.first, a.last}
	case plus:
		return n.takeAgain(p.a)
	case maybe:
		a := n.take(p.a)
		return edge{true, a.first, a.last}
	default: // none
		return edge{empty: true}
	}
}

// takePlace: a place gets the next number.
func (n *net) takePlace(p place) edge {
	self := places(1) << n.count
	n.count++
	for b, in := range p.bytes {
		if in {
			n.stands[b] |= self
		}
	}
	return edge{first: self, last: self}
}

// takeAgain: a part behind which it may come itself.
func (n *net) takeAgain(p part) edge {
	a := n.take(p)
	n.link(a.last, a.first)
	return a
}

// joined: the edge of a part and another behind it.
func joined(a, b edge) edge {
	e := edge{a.empty && b.empty, a.first, b.last}
	if a.empty {
		e.first |= b.first
	}
	if b.empty {
		e.last |= a.last
	}
	return e
}

// link: each of the places to can follow each of the places from.
func (n *net) link(from, to places) {
	for p := range n.count {
		if from.has(p) {
			n.follows[p] |= to
		}
	}
}

// behind: what is to be seen behind a byte; false, if no place that may come stands for it.
func (n *net) behind(o outlook, b int, last places) (outlook, bool) {
	taken := o.next & n.stands[b]
	ahead := outlook{ends: taken&last != 0}
	for p := range n.count {
		if taken.has(p) {
			ahead.next |= n.follows[p]
		}
	}
	return ahead, taken != 0
}

// number: that of a state; the next one, if it was not met before.
func (s *states) number(o outlook) int {
	i := slices.Index(*s, o)
	if i < 0 {
		i = len(*s)
		*s = append(*s, o)
	}
	return i
}
