package regex_test

import (
	"regexp"
	"slices"
	"strconv"
	"strings"
	"testing"
	"unicode/utf8"

	"augur/api"
	"augur/regex"
	"augur/testaid"
)

// What is here says the chapter's words a second time: things are cut by forms of the library, words are texts that are put together, sets of places are written out. It may be slow.

const (
	formOfEscape = `\\(?:[ntr()\[\]|*+?.\-^\\]|x[0-9a-f][0-9a-f])`
	formOfSet    = `\\[dws]`
	formOfOne    = `(?:[ -,.-Z_-~]|` + formOfEscape + `)`
	formOfItem   = `(?:` + formOfSet + `|` + formOfOne + `(?:-` + formOfOne + `)?)`
	formOfClass  = `\[\^?` + formOfItem + `+\]`
)

var (
	thingForm = regexp.MustCompile(`^(?:` + formOfClass + `|` + formOfSet + `|` + formOfEscape + `|[ -Z\]-~])`)
	itemForm  = regexp.MustCompile(`(` + formOfSet + `)|(` + formOfOne + `)(?:-(` + formOfOne + `))?`)
)

// asRunes: a rune for each byte, as the library's forms read runes.
func asRunes(text string) string {
	out := make([]rune, len(text))
	for i := range len(text) {
		out[i] = rune(text[i])
	}
	return string(out)
}

// wordThing: the first thing of a text; none, if it is wrong as it stands.
func wordThing(text string) string {
	thing := text[:utf8.RuneCountInString(thingForm.FindString(asRunes(text)))]
	if thing != "" && thing[0] == '[' && wordStands(thing) == [256]bool{} {
		return ""
	}
	return thing
}

func wordSet(letter byte) string {
	return map[byte]string{'d': "0123456789", 's': " \x09\x0a\x0d", 'w': "_0123456789abcdefghijklmnopqrstuvwxyzABCDEFGHIJKLMNOPQRSTUVWXYZ"}[letter]
}

func wordOne(one string) byte {
	switch {
	case len(one) == 1:
		return one[0]
	case len(one) == 4:
		v, _ := strconv.ParseUint(one[2:], 16, 8)
		return byte(v)
	case strings.Contains("ntr", one[1:]):
		return map[byte]byte{'n': 0x0a, 't': 0x09, 'r': 0x0d}[one[1]]
	}
	return one[1]
}

// wordStands: which bytes a thing that reads one byte stands for; none, where a range runs backwards.
func wordStands(thing string) (stands [256]bool) {
	if len(thing) == 1 && thing != "." {
		stands[thing[0]] = true
		return stands
	}
	class := thing[0] == '['
	others := class && thing[1] == '^'
	inner := thing
	if class {
		inner = strings.TrimPrefix(thing[1:len(thing)-1], "^")
	}
	items := itemForm.FindAllStringSubmatch(inner, -1)
	for b := range 256 {
		if thing == "." {
			stands[b] = true
			continue
		}
		for _, item := range items {
			switch {
			case item[1] != "":
				stands[b] = stands[b] || strings.IndexByte(wordSet(item[1][1]), byte(b)) >= 0
			case item[3] == "":
				stands[b] = stands[b] || byte(b) == wordOne(item[2])
			case wordOne(item[3]) < wordOne(item[2]):
				return [256]bool{}
			default:
				stands[b] = stands[b] || byte(b) >= wordOne(item[2]) && byte(b) <= wordOne(item[3])
			}
		}
		stands[b] = stands[b] != others
	}
	return stands
}

// wordThings: all things of a text; or the fault's place, which is else -1.
func wordThings(text string) ([]string, int) {
	if len(text) > 64 {
		return nil, 64
	}
	var things []string
	open, at := 0, 0
	for at < len(text) {
		thing := wordThing(text[at:])
		begins := len(things) == 0 || things[len(things)-1] == "(" || things[len(things)-1] == "|"
		switch {
		case thing == "" || thing == "]":
			return nil, at
		case thing == ")" && open == 0:
			return nil, at
		case begins && (thing == "*" || thing == "+" || thing == "?"):
			return nil, at
		case thing == "(":
			open++
		case thing == ")":
			open--
		}
		things = append(things, thing)
		at += len(thing)
	}
	if open > 0 {
		return nil, len(text)
	}
	return things, -1
}

// said: an expression as the words say it: op is |, *, +, ?, "then", or "place".
type said struct {
	op     string
	kids   []said
	stands [256]bool
	place  int
}

// deeper: by how many brackets a thing leads inwards.
func deeper(thing string) int { return map[string]int{"(": 1, ")": -1}[thing] }

// wordTree: of things that are all right; count is how many places there were.
func wordTree(things []string, count *int) said {
	depth := 0
	branches := [][]string{nil}
	for _, thing := range things {
		depth += deeper(thing)
		if thing == "|" && depth == 0 {
			branches = append(branches, nil)
			continue
		}
		branches[len(branches)-1] = append(branches[len(branches)-1], thing)
	}
	all := said{op: "|"}
	for _, branch := range branches {
		all.kids = append(all.kids, wordBranch(branch, count))
	}
	return all
}

func wordBranch(things []string, count *int) said {
	all := said{op: "then"}
	for i := 0; i < len(things); i++ {
		switch thing := things[i]; thing {
		case "*", "+", "?":
			last := len(all.kids) - 1
			all.kids[last] = said{op: thing, kids: []said{all.kids[last]}}
		case "(":
			end, depth := i+1, 1
			for ; depth > 0; end++ {
				depth += deeper(things[end])
			}
			all.kids = append(all.kids, wordTree(things[i+1:end-1], count))
			i = end - 1
		default:
			all.kids = append(all.kids, said{op: "place", stands: wordStands(thing), place: *count})
			*count++
		}
	}
	return all
}

// tree: of a text that is an expression.
func tree(t *testing.T, expr string) said {
	t.Helper()
	things, at := wordThings(expr)
	if at >= 0 {
		t.Fatalf("%q is no expression, at %d", expr, at)
	}
	count := 0
	return wordTree(things, &count)
}

// spots: a set of spots of a text: ahead of its first byte, and behind each.
type spots [80]bool

func (a spots) and(b spots) spots {
	for i, in := range b {
		a[i] = a[i] || in
	}
	return a
}

// ends: where words end that begin at one of the spots.
func (s said) ends(text string, from spots) (to spots) {
	switch s.op {
	case "place":
		for i := range len(text) {
			to[i+1] = from[i] && s.stands[text[i]]
		}
	case "|":
		for _, kid := range s.kids {
			to = to.and(kid.ends(text, from))
		}
	case "then":
		to = from
		for _, kid := range s.kids {
			to = kid.ends(text, to)
		}
	case "?":
		to = from.and(s.kids[0].ends(text, from))
	case "*":
		to = from
		for more := to.and(s.kids[0].ends(text, to)); more != to; more = to.and(s.kids[0].ends(text, to)) {
			to = more
		}
	case "+":
		star := said{op: "*", kids: s.kids}
		to = star.ends(text, s.kids[0].ends(text, from))
	}
	return to
}

// word: is a text one?
func (s said) word(text string) bool { return s.ends(text, spots{true})[len(text)] }

// row: of the chapter's table, with what follows what inside too.
type row struct {
	empty       bool
	first, last []int
	follows     [][2]int
}

func (r *row) follow(lasts, firsts []int) {
	for _, l := range lasts {
		for _, f := range firsts {
			r.follows = append(r.follows, [2]int{l, f})
		}
	}
}

func (s said) row() row {
	switch s.op {
	case "place":
		return row{false, []int{s.place}, []int{s.place}, nil}
	case "then":
		all := row{empty: true}
		for _, kid := range s.kids {
			a, b := all, kid.row()
			all = row{a.empty && b.empty, a.first, b.last, append(a.follows, b.follows...)}
			all.follow(a.last, b.first)
			if a.empty {
				all.first = slices.Concat(a.first, b.first)
			}
			if b.empty {
				all.last = slices.Concat(a.last, b.last)
			}
		}
		return all
	case "|":
		var all row
		for _, kid := range s.kids {
			r := kid.row()
			all = row{all.empty || r.empty, append(all.first, r.first...), append(all.last, r.last...), append(all.follows, r.follows...)}
		}
		return all
	}
	r := s.kids[0].row()
	if s.op != "?" {
		r.follow(r.last, r.first)
	}
	r.empty = r.empty || s.op != "+"
	return r
}

// leaves: all places.
func (s said) leaves() []said {
	if s.op == "place" {
		return []said{s}
	}
	var all []said
	for _, kid := range s.kids {
		all = append(all, kid.leaves()...)
	}
	return all
}

// moment: a state; its places, in their order, as a text.
type moment struct {
	places string
	ends   bool
}

func written(places []int) string {
	slices.Sort(places)
	out := ""
	for _, p := range slices.Compact(places) {
		out += strconv.Itoa(p) + " "
	}
	return out
}

// machine: an automaton; next has 256 numbers a state.
type machine struct {
	next [][256]int
	ends []bool
}

// wordMachine: the automaton of an expression; false, if it has more than 64 states.
func wordMachine(s said) (machine, bool) {
	whole, leaves := s.row(), s.leaves()
	met := []moment{{written(whole.first), whole.empty}}
	var m machine
	for i := 0; i < len(met); i++ {
		m.next = append(m.next, [256]int{})
		m.ends = append(m.ends, met[i].ends)
		for b := range 256 {
			taken := map[int]int{}
			for _, p := range strings.Fields(met[i].places) {
				if place, _ := strconv.Atoi(p); leaves[place].stands[b] {
					taken[place]++
				}
			}
			m.next[i][b] = -1
			if len(taken) == 0 {
				continue
			}
			var ahead []int
			for _, pair := range whole.follows {
				if taken[pair[0]] > 0 {
					ahead = append(ahead, pair[1])
				}
			}
			ends := slices.ContainsFunc(whole.last, func(p int) bool { return taken[p] > 0 })
			state := moment{written(ahead), ends}
			if !slices.Contains(met, state) {
				met = append(met, state)
			}
			m.next[i][b] = slices.Index(met, state)
			if len(met) > 64 {
				return machine{}, false
			}
		}
	}
	return m, true
}

// asWords: Compile answers what the words say, and the automaton is theirs. It tells which error there is.
func asWords(t *testing.T, expr string) api.Errno {
	t.Helper()
	things, at := wordThings(expr)
	if at >= 0 {
		refused(t, expr, api.ErrRegex, at)
		return api.ErrRegex
	}
	count := 0
	want, ok := wordMachine(wordTree(things, &count))
	if !ok {
		refused(t, expr, api.ErrStates, 0)
		return api.ErrStates
	}
	is(t, expr, want)
	return api.OK
}

// refused: an error, its place, and no automaton.
func refused(t *testing.T, expr string, want api.Errno, place int) {
	t.Helper()
	if d, e, at := regex.Compile(expr); d != nil || e != want || at != place {
		t.Errorf("P11.1: Compile(%q): an automaton: %v, %d at %d, want %d at %d", expr, d != nil, e, at, want, place)
	}
}

// compiled: the automaton of an expression.
func compiled(t *testing.T, expr string) *regex.DFA {
	t.Helper()
	d, e, at := regex.Compile(expr)
	if d == nil || e != api.OK || at != 0 {
		t.Fatalf("P11.1: Compile(%q): an automaton: %v, %d at %d", expr, d != nil, e, at)
	}
	return d
}

// is: the automaton of an expression has these states.
func is(t *testing.T, expr string, want machine) {
	t.Helper()
	d := compiled(t, expr)
	if d.States() != len(want.ends) {
		t.Fatalf("P11.2: %q has %d states, want %d", expr, d.States(), len(want.ends))
	}
	for state, ends := range want.ends {
		if d.Accepts(state) != ends {
			t.Errorf("P11.2: %q: Accepts(%d) = %v", expr, state, !ends)
		}
		for b, next := range want.next[state] {
			if got, e := d.Next(state, byte(b)); got != next || e != api.OK {
				t.Errorf("P11.2: %q: Next(%d, %#x) = %d, %d, want %d", expr, state, b, got, e, next)
			}
		}
	}
}

// someExpression: one that is right; n is about how many things it has, alphabet what its single bytes are.
func someExpression(s *testaid.Source, n int, alphabet string) string {
	if n <= 1 {
		return someAtom(s, alphabet)
	}
	k := 1 + s.Below(n-1)
	switch s.Below(8) {
	case 0, 1:
		return someExpression(s, k, alphabet) + "|" + someExpression(s, n-k, alphabet)
	case 2, 3:
		return "(" + someExpression(s, n-1, alphabet) + ")" + "*+?"[s.Below(3):][:1]
	case 4:
		return "(" + someExpression(s, k, alphabet) + "|)" + someExpression(s, n-k, alphabet)
	case 5:
		return "(" + someExpression(s, k, alphabet) + ")" + someExpression(s, n-k, alphabet)
	}
	return someExpression(s, k, alphabet) + someExpression(s, n-k, alphabet)
}

func someAtom(s *testaid.Source, alphabet string) string {
	a, b := s.Below(len(alphabet)), s.Below(len(alphabet))
	low, high := alphabet[min(a, b)], alphabet[max(a, b)]
	atoms := []string{string(low), string(high), string(low), string(high), ".", "[" + string(low) + "]", "[" + string(low) + "-" + string(high) + "]", "[^" + string(low) + "]", "\\x" + strconv.FormatUint(uint64(high), 16), "()", "(|" + string(low) + ")", "\\w", "[\\d" + string(high) + "]"}
	return atoms[s.Below(len(atoms))] + []string{"", "", "", "", "*", "+", "?", "*?", "+*"}[s.Below(9)]
}

// allTexts: calls for each text of at most so many bytes of an alphabet.
func allTexts(alphabet string, most int, call func(text string)) {
	texts := []string{""}
	for len(texts) > 0 {
		text := texts[len(texts)-1]
		texts = texts[:len(texts)-1]
		call(text)
		if len(text) < most {
			for i := range len(alphabet) {
				texts = append(texts, text+alphabet[i:i+1])
			}
		}
	}
}
