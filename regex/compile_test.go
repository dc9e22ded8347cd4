package regex_test

import (
	"strings"
	"testing"

	"augur/api"
	"augur/regex"
	"augur/testaid"
)

// texts: words and texts that are none, as a list.
func texts(list ...string) []string { return list }

// reads: of all texts that are told the first ones are words of an expression, the others are not.
func reads(t *testing.T, expr string, words, others []string) {
	t.Helper()
	d := compiled(t, expr)
	for _, w := range words {
		if !d.Match([]byte(w)) {
			t.Errorf("P11.3: %q is no word of %q", w, expr)
		}
	}
	for _, w := range others {
		if d.Match([]byte(w)) {
			t.Errorf("P11.3: %q is a word of %q", w, expr)
		}
	}
}

// standsFor: an expression has just these bytes, each alone, as its words.
func standsFor(t *testing.T, expr string, stands func(b byte) bool) {
	t.Helper()
	d := compiled(t, expr)
	if d.States() != 2 || d.Accepts(0) || !d.Accepts(1) {
		t.Errorf("P11.2: %q has %d states; Accepts: %v, %v", expr, d.States(), d.Accepts(0), d.Accepts(1))
	}
	for b := range 256 {
		want := -1
		if stands(byte(b)) {
			want = 1
		}
		if next, e := d.Next(0, byte(b)); next != want || e != api.OK {
			t.Errorf("P11.2: %q: Next(0, %#x) = %d, %d, want %d", expr, b, next, e, want)
		}
		if next, e := d.Next(1, byte(b)); next != -1 || e != api.OK {
			t.Errorf("P11.2: %q: Next(1, %#x) = %d, %d, want -1", expr, b, next, e)
		}
	}
}

func only(list string) func(b byte) bool {
	return func(b byte) bool { return strings.IndexByte(list, b) >= 0 }
}

func but(list string) func(b byte) bool {
	return func(b byte) bool { return strings.IndexByte(list, b) < 0 }
}

func fromTo(low, high byte) func(b byte) bool {
	return func(b byte) bool { return b >= low && b <= high }
}

func TestCompileExamples(t *testing.T) {
	for expr, states := range map[string]int{
		"": 1, "a": 2, "a*b": 2, "(a|b)*a": 2, `[0-9]+(\.[0-9]+)?`: 4, `\x41[^a-z]?`: 3, ".*a.....": 64,
		"a**": 1, "()": 1, "(|a)+": 1, "a||b": 2,
	} {
		if d := compiled(t, expr); d.States() != states {
			t.Errorf("P11.1: %q has %d states, want %d", expr, d.States(), states)
		}
		if e := asWords(t, expr); e != api.OK {
			t.Errorf("the words refuse %q: %d", expr, e)
		}
	}
	refused(t, ".*a......", api.ErrStates, 0)
	for expr, at := range map[string]int{
		"*a": 0, "a|*": 2, "(a": 2, "a)": 1, "a]": 1, "[]": 0, "[b-a]": 0, "x[a": 1, `[a-\d]`: 0, `\q`: 0, `a\`: 1, `\x4`: 0, `[^\x00-\xff]`: 0,
		"ab\x0a": 2, strings.Repeat("a", 65): 64, strings.Repeat(")", 65): 64,
	} {
		refused(t, expr, api.ErrRegex, at)
		asWords(t, expr)
	}
}

func TestCompileEmpty(t *testing.T) {
	for _, expr := range []string{"", "()", "(())", "|", "||", "()|()", "(|)", "()*", "()+", "()?", "(()*|)+?"} {
		d := compiled(t, expr)
		if d.States() != 1 || !d.Accepts(0) || !d.Match(nil) {
			t.Errorf("P11.1: %q has %d states, accepts the empty text: %v", expr, d.States(), d.Match(nil))
		}
		for b := range 256 {
			if next, e := d.Next(0, byte(b)); next != -1 || e != api.OK || d.Match([]byte{byte(b)}) {
				t.Errorf("P11.2: %q: Next(0, %#x) = %d, %d", expr, b, next, e)
			}
		}
	}
}

func TestCompileLength(t *testing.T) {
	for expr, states := range map[string]int{
		strings.Repeat("a*", 32):                                 1,
		strings.Repeat("()", 32):                                 1,
		strings.Repeat("|", 64):                                  1,
		strings.Repeat("a|", 32):                                 2,
		"a" + strings.Repeat("*", 63):                            1,
		"a" + strings.Repeat("+", 63):                            2,
		strings.Repeat("a", 62) + "b?":                           64,
		"[" + strings.Repeat("a", 62) + "]":                      2,
		"[^" + strings.Repeat("a-z", 20) + "b]":                  2,
		strings.Repeat("(", 31) + "ab" + strings.Repeat(")", 31): 3,
	} {
		if len(expr) != api.MaxRegex {
			t.Errorf("%q has %d bytes", expr, len(expr))
		}
		if d := compiled(t, expr); d.States() != states {
			t.Errorf("P11.1: %q has %d states, want %d", expr, d.States(), states)
		}
		for _, more := range []string{"*", "a", ")", "\x00", "\xff", expr} {
			refused(t, expr+more, api.ErrRegex, 64)
		}
	}
	for _, long := range []string{strings.Repeat("(", 65), "*" + strings.Repeat("a", 64), `\` + strings.Repeat("q", 70), strings.Repeat("\xff", 1000), strings.Repeat("a*", 1<<20), strings.Repeat("(", 1<<20)} {
		refused(t, long, api.ErrRegex, 64)
	}
}

// Each of the 256 bytes alone, and with others ahead of it.
func TestCompileSingleBytes(t *testing.T) {
	for b := range 256 {
		expr := string([]byte{byte(b)})
		switch {
		case b < 0x20 || b > 0x7e:
			refused(t, expr, api.ErrRegex, 0)
			refused(t, "ab"+expr, api.ErrRegex, 2)
			refused(t, "(a|"+expr+"*)", api.ErrRegex, 3)
		case strings.Contains("]*+?)", expr):
			refused(t, expr, api.ErrRegex, 0)
			refused(t, "|"+expr, api.ErrRegex, 1)
		case expr == "(":
			refused(t, expr, api.ErrRegex, 1)
			refused(t, "ab"+expr, api.ErrRegex, 3)
		case expr == "[" || expr == `\`:
			refused(t, expr, api.ErrRegex, 0)
			refused(t, "ab"+expr, api.ErrRegex, 2)
		case expr == ".":
			standsFor(t, expr, fromTo(0, 255))
		case expr == "|":
			reads(t, expr, texts(""), texts("|"))
		default:
			standsFor(t, expr, only(expr))
			standsFor(t, "("+expr+")", only(expr))
			reads(t, "a"+expr+"c", texts("a"+expr+"c"), texts("ac", "a\x00c", "a"+expr, expr+"c"))
		}
	}
}

// Each of the 256 bytes inside a class: alone, behind another, as the end of a range, behind a ^.
func TestCompileInnerBytes(t *testing.T) {
	for b := range 256 {
		expr := string([]byte{byte(b)})
		if b < 0x20 || b > 0x7e || strings.Contains(`[^-\`, expr) {
			for _, class := range []string{"[" + expr + "]", "[^" + expr + "]", "[!-" + expr + "]", "[b" + expr + "a]", "[a" + expr + "]"} {
				refused(t, class, api.ErrRegex, 0)
				refused(t, "x|"+class, api.ErrRegex, 2)
			}
			continue
		}
		if expr == "]" {
			refused(t, "[]]", api.ErrRegex, 0)
			refused(t, "[^]]", api.ErrRegex, 0)
			refused(t, "[!-]]", api.ErrRegex, 0)
			refused(t, "[a]]", api.ErrRegex, 3)
			continue
		}
		standsFor(t, "["+expr+"]", only(expr))
		standsFor(t, "[^"+expr+"]", but(expr))
		standsFor(t, "[a"+expr+"]", only("a"+expr))
		standsFor(t, "["+expr+"a]", only(expr+"a"))
		standsFor(t, "["+expr+"-"+expr+"]", only(expr))
		standsFor(t, "["+expr+"-~]", fromTo(byte(b), '~'))
		standsFor(t, "[ -"+expr+"]", fromTo(' ', byte(b)))
		standsFor(t, "[^ -"+expr+"]", func(c byte) bool { return c < ' ' || c > byte(b) })
		if b > ' ' {
			refused(t, "["+expr+"- ]", api.ErrRegex, 0)
			refused(t, "a["+expr+"-"+string(rune(b-1))+"]", api.ErrRegex, 1)
		}
	}
}

// Each of the 256 bytes behind a backslash, outside a class and inside one.
func TestCompileEscapes(t *testing.T) {
	sets := map[byte]string{'d': "0123456789", 'w': "0123456789ABCDEFGHIJKLMNOPQRSTUVWXYZabcdefghijklmnopqrstuvwxyz_", 's': "\x20\x09\x0a\x0d"}
	for b := range 256 {
		expr := `\` + string([]byte{byte(b)})
		one := map[byte]string{'n': "\x0a", 't': "\x09", 'r': "\x0d"}[byte(b)]
		if strings.IndexByte(`()[]|*+?.-^\`, byte(b)) >= 0 {
			one = string([]byte{byte(b)})
		}
		switch set := sets[byte(b)]; {
		case set != "":
			standsFor(t, expr, only(set))
			standsFor(t, "["+expr+"]", only(set))
			standsFor(t, "[^"+expr+"]", but(set))
			standsFor(t, "["+expr+"!"+expr+"]", only(set+"!"))
			for _, class := range []string{"[" + expr + "-~]", "[" + expr + "-]", "[ -" + expr + "]", "[" + expr + "-" + expr + "]"} {
				refused(t, class, api.ErrRegex, 0)
			}
		case one != "":
			standsFor(t, expr, only(one))
			standsFor(t, "["+expr+"]", only(one))
			standsFor(t, "[^"+expr+"]", but(one))
			standsFor(t, "["+expr+"-"+expr+"]", only(one))
			standsFor(t, "["+expr+"-~]", fromTo(one[0], '~'))
			standsFor(t, `[\x00-`+expr+"]", fromTo(0, one[0]))
			reads(t, expr+expr+"*b", texts(one+"b", one+one+one+"b"), texts("", "b", one, "n"+one+"b"))
		default:
			refused(t, expr, api.ErrRegex, 0)
			refused(t, "ab"+expr, api.ErrRegex, 2)
			refused(t, "["+expr+"]", api.ErrRegex, 0)
			refused(t, "a[b"+expr+"]", api.ErrRegex, 1)
			refused(t, "a[ -"+expr+"]", api.ErrRegex, 1)
		}
	}
}

// All pairs of bytes behind \x: just those of two digits, none of them a capital letter, are right.
func TestCompileHexadecimal(t *testing.T) {
	const digits = "0123456789abcdef"
	for high := range 256 {
		for low := range 256 {
			expr := `\x` + string([]byte{byte(high), byte(low)})
			h, l := strings.IndexByte(digits, byte(high)), strings.IndexByte(digits, byte(low))
			if h < 0 || l < 0 {
				refused(t, "a"+expr, api.ErrRegex, 1)
				refused(t, "ab["+expr+"]", api.ErrRegex, 2)
				continue
			}
			standsFor(t, expr, only(string([]byte{byte(16*h + l)})))
			standsFor(t, "[^"+expr+"]", but(string([]byte{byte(16*h + l)})))
		}
	}
	for _, few := range []string{`\x`, `\x4`, `\xf`, `[\x]`, `[\x4]`, `[\x`, `[\x4`, `[a-\x4]`, `\x-1`, `\x 1`, `\x4|`, `(\x4)`} {
		at := strings.IndexAny(few, `\[`)
		refused(t, few, api.ErrRegex, at)
		refused(t, "()"+few, api.ErrRegex, 2+at)
	}
	reads(t, `\x414`, texts("A4"), texts("A", "4", "\x41\x04"))
	reads(t, `\x80\xff\x00`, texts("\x80\xff\x00"), texts("\x80\xff", "€", ""))
}

func TestCompileClasses(t *testing.T) {
	for expr, stands := range map[string]func(b byte) bool{
		"[a]": only("a"), "[a-a]": only("a"), "[a-b]": only("ab"), "[abc]": only("abc"), "[aaa]": only("a"), "[a-cb-d]": only("abcd"),
		"[^a]": but("a"), "[^a-c]": but("abc"), "[a-cx-z]": only("abcxyz"), "[^a-cx-z_]": but("abcxyz_"),
		"[(|)*+?.$]": only("(|)*+?.$"), `[\^\-\]\[\\]`: only(`^-][\`), `[a\-z]`: only("a-z"), `[a-\x63]`: only("abc"), `[\x61-c]`: only("abc"), `[\x61-\x63]`: only("abc"),
		`[\x00-\xff]`: fromTo(0, 255), `[\x00-\x7f\x80-\xff]`: fromTo(0, 255), `[\x80-\xff]`: fromTo(0x80, 0xff), `[^\x80-\xff]`: fromTo(0, 0x7f), `[^\x00-\xfe]`: only("\xff"), `[^\x01-\xff]`: only("\x00"), `[\xff]`: only("\xff"), `[\x00]`: only("\x00"),
		`[\d]`: only("0123456789"), `[\da-f]`: only("0123456789abcdef"), `[a-f\d]`: only("0123456789abcdef"), `[\s\d]`: only(" \t\n\r0123456789"), `[^\s]`: but(" \t\n\r"), `[^\w\s]`: func(b byte) bool { return but(wordSet('w'))(b) && but(wordSet('s'))(b) },
		`[\n-\r]`: only("\x0a\x0b\x0c\x0d"), `[(-)]`: only("()"), `[+-.]`: only("+,-."), `[ ]`: only(" "), `[^ -~]`: func(b byte) bool { return b < 0x20 || b > 0x7e },
		"^": only("^"), "-": only("-"), "$": only("$"), "{": only("{"),
	} {
		standsFor(t, expr, stands)
		standsFor(t, "("+expr+")", stands)
		asWords(t, "x"+expr+"+")
	}
	for _, wrong := range []string{
		"[]", "[^]", "[", "[^", "[a", "[a-", "[a-]", "[^a-]", "[-]", "[-a]", "[^-a]", "[a-b-c]", "[a--]", "[--a]", "[^^]", "[a^]", "[[]", "[[a]]", "[a[]", "[]a]", "[^]a]",
		"[b-a]", "[a-cz-y]", "[b-aa-b]", `[\x01-\x00]`, `[\xff-a]`, `[a-\n]`, `[a-\d]`, `[\d-a]`, `[\d-\d]`, `[\w-]`, `[\`, `[\]`, `[a\]`, `[\q]`, `[\x]`, `[\xg0]`, `[a\x4]`,
		`[^\x00-\xff]`, `[^\x00-\x7f\x80-\xff]`, `[^\d\x00-\xff]`, "[\x0a]", "[a\x7f]", "[\x80]", "[a-\xff]", "[a\x00", "[a|b", "[a)", "[^a(",
	} {
		refused(t, wrong, api.ErrRegex, 0)
		refused(t, "(ab|"+wrong, api.ErrRegex, 4)
	}
}

// kindsOfAtoms: one of each kind, with a word that it has and one that it has not.
func kindsOfAtoms() [][3]string {
	return [][3]string{
		{"a", "a", "b"}, {"-", "-", "b"}, {".", "\xff", "bb"}, {`\n`, "\n", "n"}, {`\(`, "(", "b"}, {`\x2a`, "*", "b"}, {`\d`, "7", "b"}, {"[ac]", "c", "b"}, {"[^ac]", "b", "c"}, {`[*\]+]`, "]", "b"}, {"(a)", "a", "b"}, {"(ab|c)", "ab", "b"}, {"(ab)", "ab", "b"},
	}
}

func TestCompileRepeats(t *testing.T) {
	for _, kind := range kindsOfAtoms() {
		a, w, other := kind[0], kind[1], kind[2]
		more := texts(w+w, w+w+w, strings.Repeat(w, 50))
		reads(t, a, texts(w), append(texts("", other), more...))
		reads(t, a+"*", append(texts("", w), more...), texts(w + "€" + other + "€")[:min(1, len(a)-1)])
		reads(t, a+"+", append(texts(w), more...), texts(""))
		reads(t, a+"?", texts("", w), more)
		for _, several := range []string{"**", "*+", "+*", "*?", "?*", "+?", "?+", "***", "+?*", "??+"} {
			reads(t, a+several, append(texts("", w), more...), nil)
			reads(t, "x"+a+several+"y", texts("xy", "x"+w+"y", "x"+w+w+"y"), texts("", "x", "y", "x"+w, w+"y"))
		}
		reads(t, a+"++", append(texts(w), more...), texts(""))
		reads(t, a+"??", texts("", w), more)
		for _, op := range []string{"*", "+", "?"} {
			for _, wrong := range []string{op, op + a, "(" + op + a + ")", "(" + op, a + "|" + op, "|" + op + a, "(|" + op + ")", "(" + a + "|" + op} {
				refused(t, wrong, api.ErrRegex, strings.Index(strings.ReplaceAll(wrong, a, strings.Repeat("#", len(a))), op))
			}
		}
	}
}

func TestCompileBranches(t *testing.T) {
	reads(t, "a|", texts("", "a"), texts("aa", "|"))
	reads(t, "|a", texts("", "a"), texts("aa", "|"))
	reads(t, "a||b", texts("", "a", "b"), texts("ab", "|"))
	reads(t, "x(|a|)y", texts("xy", "xay"), texts("x", "xaay", "x|y"))
	reads(t, "(|a)+", texts("", "a", "aaa"), texts("b"))
	reads(t, "a|bc|d*", texts("a", "bc", "", "ddd"), texts("ac", "b", "c", "ad", "abc"))
	reads(t, "ab|cd", texts("ab", "cd"), texts("abd", "acd", "abcd", "a", ""))
	reads(t, "a(b|c)d", texts("abd", "acd"), texts("ab", "cd", "ad", "abcd"))
	reads(t, "(a|b)(c|)(|d)", texts("a", "b", "ac", "bd", "acd"), texts("", "c", "adc", "ab"))
	reads(t, "ab*", texts("a", "ab", "abb"), texts("", "abab", "b"))
	reads(t, "(ab)*", texts("", "ab", "abab"), texts("a", "abb", "ba"))
	reads(t, "a|b*", texts("", "a", "bb"), texts("aa", "ab"))
}

func TestCompileBrackets(t *testing.T) {
	open, closed := strings.Repeat("(", 32), strings.Repeat(")", 32)
	reads(t, open+closed, texts(""), texts("a", "()"))
	standsFor(t, open[1:]+"a"+closed[1:], only("a"))
	reads(t, open[1:]+"a"+closed[1:]+"*", texts("", "a", "aaa"), texts("b"))
	reads(t, open[1:]+"a*"+closed[1:], texts("", "a", "aaa"), texts("b"))
	refused(t, open+open, api.ErrRegex, 64)
	refused(t, closed+closed, api.ErrRegex, 0)
	refused(t, open+closed[1:], api.ErrRegex, 63)
	refused(t, open[1:]+closed, api.ErrRegex, 62)
	refused(t, open+"a"+closed[1:], api.ErrRegex, 64)
	refused(t, open[1:]+"a"+closed, api.ErrRegex, 63)
	for n := range 32 {
		refused(t, open[:n]+closed[:n]+")", api.ErrRegex, 2*n)
		refused(t, open[:n]+closed[:n]+")(", api.ErrRegex, 2*n)
		refused(t, open[:n]+closed[:n]+"(", api.ErrRegex, 2*n+1)
		refused(t, open[:n]+"("+closed[:n], api.ErrRegex, 2*n+1)
		asWords(t, open[:n]+strings.Repeat("a*)", 64)[:64-n])
	}
	for expr, at := range map[string]int{
		"(": 1, "((": 2, "(a": 2, "(a|": 3, "a(b": 3, "(a)(": 4, "(()": 3, "(a*": 3, `(\)`: 3, "([)]": 4,
		")": 0, "a)": 1, "())": 2, "a|)": 2, "(a))b": 3, ")(": 0, "a*)": 2, `\()`: 2, "[(])": 3,
	} {
		refused(t, expr, api.ErrRegex, at)
	}
}

// Of several faults the first is told, whatever its kind, and that a bracket is not closed behind all others.
func TestCompileFirstFault(t *testing.T) {
	wrong := []string{"*", "\x00", "\x7f", "\xff", "]", ")", `\q`, `\xz`, "[]", "[b-a]", "[\x00]", `[^\x00-\xff]`}
	for _, first := range wrong {
		for _, second := range append(wrong, "(", "+", "?", `\`, "[", "(a") {
			refused(t, first+second, api.ErrRegex, 0)
			refused(t, "a|"+first+second, api.ErrRegex, 2)
			if first != ")" {
				refused(t, "("+first+second, api.ErrRegex, 1)
				refused(t, "((a)(b|"+first+"c"+second+")", api.ErrRegex, 7)
			}
		}
	}
	for expr, at := range map[string]int{
		`(a\q`: 2, "(*a)": 1, `\q*`: 0, "[a\\q": 0, `\x*`: 0, `a\x4]`: 1, "(]": 1, "(a]": 2, "([a)": 1, `(\`: 1, "(a|*": 3, "*)": 0, ")*": 0, "](": 0, "a)\\": 1,
		"[*]*+?)": 6, "[a]]": 3, `[\]`: 0, `\]]`: 2, `[\]]]`: 4, "a\x00[": 1, "[\x00": 0, "\\\x00": 0, "(\\\xff": 1,
	} {
		refused(t, expr, api.ErrRegex, at)
		asWords(t, expr)
	}
}

// Every text of a few bytes that make up expressions.
func TestCompileAllShortTexts(t *testing.T) {
	for _, c := range []struct {
		alphabet string
		most     int
	}{
		{"ab()|*+?", 5}, {"a(|)*", 7}, {`[]^-ab\d`, 5}, {`[]-\x01`, 6}, {"a.]+)\n\x80", 4},
	} {
		count := map[api.Errno]int{}
		allTexts(c.alphabet, c.most, func(text string) { count[asFault(t, text)]++ })
		if count[api.OK] < 50 || count[api.ErrRegex] < 50 {
			t.Errorf("of %q: %v", c.alphabet, count)
		}
	}
}

// asFault: Compile refuses just what is no expression, at its place. (Which states there are is asked elsewhere.)
func asFault(t *testing.T, text string) api.Errno {
	t.Helper()
	_, at := wordThings(text)
	if at >= 0 {
		refused(t, text, api.ErrRegex, at)
		return api.ErrRegex
	}
	d, e, place := regex.Compile(text)
	if place != 0 || e == api.OK && d == nil || e != api.OK && (d != nil || e != api.ErrStates) {
		t.Errorf("P11.1: Compile(%q): an automaton: %v, %d at %d", text, d != nil, e, place)
	}
	return e
}

// Drawn texts: of any bytes, and right ones with a byte changed, taken out or put in.
func TestCompileDrawnTexts(t *testing.T) {
	s := testaid.Source(131)
	const telling = `()[]|*+?.\^-abdwsxnq0f~ `
	for range 5000 {
		text := make([]byte, s.Below(70))
		for i := range text {
			text[i] = telling[s.Below(len(telling))]
		}
		asFault(t, string(text))
		expr := someExpression(&s, 1+s.Below(12), "abc")
		at, b := s.Below(len(expr)), string([]byte{byte(s.Below(256))})
		if s.Below(2) == 0 {
			b = string(telling[s.Below(len(telling))])
		}
		asFault(t, expr)
		asFault(t, expr[:at]+b+expr[at:])
		asFault(t, expr[:at]+b+expr[at+1:])
		asFault(t, expr[:at]+expr[at+1:])
		asFault(t, expr[:at])
	}
}

// As many states as there may be, and one more.
func TestCompileManyStates(t *testing.T) {
	for _, n := range []int{62, 63, 64} {
		run := strings.Repeat("a", n)
		if n < 64 {
			if d := compiled(t, run); d.States() != n+1 {
				t.Errorf("P11.1: %d times a: %d states", n, d.States())
			}
			reads(t, run, texts(run), texts(run[1:], run+"a", ""))
		} else {
			refused(t, run, api.ErrStates, 0)
		}
	}
	for n := range 9 {
		expr := ".*a" + strings.Repeat(".", n)
		if n <= 5 {
			if d := compiled(t, expr); d.States() != 2<<n {
				t.Errorf("P11.1: %q has %d states, want %d", expr, d.States(), 2<<n)
			}
			asWords(t, expr)
		} else {
			refused(t, expr, api.ErrStates, 0)
		}
	}
	// A run of so many, and behind it the 32 states of .*a....
	for n := 28; n < 40; n++ {
		expr := strings.Repeat("c", n) + ".*a...."
		if n > 32 {
			refused(t, expr, api.ErrStates, 0)
		} else if d := compiled(t, expr); d.States() != n+32 {
			t.Errorf("P11.1: %q has %d states, want %d", expr, d.States(), n+32)
		}
	}
	// A fault is told ahead of too many states.
	refused(t, strings.Repeat("a", 63)+")", api.ErrRegex, 63)
	refused(t, strings.Repeat(".", 8)+"*a......(", api.ErrRegex, 17)
	refused(t, ".*a......0*]", api.ErrRegex, 11)
}
