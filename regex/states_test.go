package regex_test

import (
	"math"
	"slices"
	"strings"
	"testing"

	"augur/api"
	"augur/regex"
	"augur/testaid"
)

// leads: of the state a row belongs to: over each of the bytes to the state.
type leads map[string]int

// laidOut: an automaton written out: what leads from each state, and the states that accept.
func laidOut(accepting []int, rows ...leads) machine {
	var m machine
	for state, row := range rows {
		var next [256]int
		for b := range next {
			next[b] = -1
		}
		for list, to := range row {
			for i := range len(list) {
				next[list[i]] = to
			}
		}
		m.next = append(m.next, next)
		m.ends = append(m.ends, slices.Contains(accepting, state))
	}
	return m
}

func allBytes() string {
	out := make([]byte, 256)
	for b := range out {
		out[b] = byte(b)
	}
	return string(out)
}

func bytesBut(list string) string {
	return string(slices.DeleteFunc([]byte(allBytes()), only(list)))
}

func TestStatesOfExamples(t *testing.T) {
	const digits = "0123456789"
	is(t, "", laidOut([]int{0}, leads{}))
	is(t, "a", laidOut([]int{1}, leads{"a": 1}, leads{}))
	is(t, "a*b", laidOut([]int{1}, leads{"a": 0, "b": 1}, leads{}))
	is(t, "(a|b)*a", laidOut([]int{1}, leads{"a": 1, "b": 0}, leads{"a": 1, "b": 0}))
	is(t, `[0-9]+(\.[0-9]+)?`, laidOut([]int{1, 3}, leads{digits: 1}, leads{digits: 1, ".": 2}, leads{digits: 3}, leads{digits: 3}))
	is(t, `\x41[^a-z]?`, laidOut([]int{1, 2}, leads{"A": 1}, leads{bytesBut("abcdefghijklmnopqrstuvwxyz"): 2}, leads{}))
	is(t, "a**", laidOut([]int{0}, leads{"a": 0}))
	is(t, "()", laidOut([]int{0}, leads{}))
	is(t, "(|a)+", laidOut([]int{0}, leads{"a": 0}))
	is(t, "a||b", laidOut([]int{0, 1}, leads{"a": 1, "b": 1}, leads{}))
}

// The numbers go by the order in which states are met: state by state, and byte by byte, wherever in the expression a byte stands.
func TestStatesAreNumberedAsMet(t *testing.T) {
	is(t, "bx|ay", laidOut([]int{3}, leads{"a": 1, "b": 2}, leads{"y": 3}, leads{"x": 3}, leads{}))
	is(t, `\xffa|\x00b|\x80c`, laidOut([]int{4}, leads{"\x00": 1, "\x80": 2, "\xff": 3}, leads{"b": 4}, leads{"c": 4}, leads{"a": 4}, leads{}))
	is(t, "c(ba)|a(d|ec)", laidOut([]int{3}, leads{"a": 1, "c": 2}, leads{"d": 3, "e": 4}, leads{"b": 5}, leads{}, leads{"c": 3}, leads{"a": 3}))
	is(t, "(cb*a)*", laidOut([]int{0}, leads{"c": 1}, leads{"a": 0, "b": 1}))
	is(t, "z?y?x?", laidOut([]int{0, 1, 2, 3}, leads{"x": 1, "y": 2, "z": 3}, leads{}, leads{"x": 1}, leads{"x": 1, "y": 2}))
}

// A state is its places and whether the text may end, neither more nor less.
func TestStatesAreSetsOfPlaces(t *testing.T) {
	// The same places, and the text may end or not.
	is(t, "a+", laidOut([]int{1}, leads{"a": 1}, leads{"a": 1}))
	is(t, "(ab*)+", laidOut([]int{1}, leads{"a": 1}, leads{"a": 1, "b": 1}))
	// The same words behind, and other places.
	is(t, "aa|ba", laidOut([]int{3}, leads{"a": 1, "b": 2}, leads{"a": 3}, leads{"a": 3}, leads{}))
	is(t, "ab*|cb*", laidOut([]int{1, 2}, leads{"a": 1, "c": 2}, leads{"b": 1}, leads{"b": 2}))
	// Other places are taken, and the same ones follow.
	is(t, "(a|b)c", laidOut([]int{2}, leads{"a": 1, "b": 1}, leads{"c": 2}, leads{}))
	// Several places are taken at once, of which one can be last.
	is(t, "ab|ac|a", laidOut([]int{1, 2}, leads{"a": 1}, leads{"b": 2, "c": 2}, leads{}))
	is(t, "[ab]x|[bc]y", laidOut([]int{4}, leads{"a": 1, "b": 2, "c": 3}, leads{"x": 4}, leads{"x": 4, "y": 4}, leads{"y": 4}, leads{}))
}

func TestStatesOfRepeats(t *testing.T) {
	is(t, "a*", laidOut([]int{0}, leads{"a": 0}))
	is(t, "a?", laidOut([]int{0, 1}, leads{"a": 1}, leads{}))
	is(t, "a??", laidOut([]int{0, 1}, leads{"a": 1}, leads{}))
	is(t, "a++", laidOut([]int{1}, leads{"a": 1}, leads{"a": 1}))
	is(t, "a?+", laidOut([]int{0}, leads{"a": 0}))
	is(t, "a+?", laidOut([]int{0}, leads{"a": 0}))
	is(t, "(ab?)*c", laidOut([]int{2}, leads{"a": 1, "c": 2}, leads{"a": 1, "b": 0, "c": 2}, leads{}))
	is(t, ".", laidOut([]int{1}, leads{allBytes(): 1}, leads{}))
	is(t, ".*", laidOut([]int{0}, leads{allBytes(): 0}))
	is(t, "[^a]*a", laidOut([]int{1}, leads{bytesBut("a"): 0, "a": 1}, leads{}))
	is(t, "(a?b?)(c|d?)e", laidOut([]int{4}, leads{"a": 1, "b": 2, "c": 3, "d": 3, "e": 4}, leads{"b": 2, "c": 3, "d": 3, "e": 4}, leads{"c": 3, "d": 3, "e": 4}, leads{"e": 4}, leads{}))
}

// Behind .*a and five more the states tell which of the last six bytes were an a: all 64 kinds.
func TestStatesOfManyPlaces(t *testing.T) {
	d := compiled(t, ".*a.....")
	kind := map[int]int{0: 0}
	for state := range d.States() {
		for _, b := range []byte("ab\x00\xff") {
			next, e := d.Next(state, b)
			want := kind[state] << 1 & 63
			if b == 'a' {
				want++
			}
			if got, met := kind[next]; e != api.OK || met && got != want {
				t.Errorf("P11.2: Next(%d, %q) = %d, %d: behind other bytes too", state, b, next, e)
			}
			kind[next] = want
		}
		if d.Accepts(state) != (kind[state] >= 32) {
			t.Errorf("P11.2: Accepts(%d) = %v", state, !d.Accepts(state))
		}
	}
	if len(kind) != 64 {
		t.Errorf("P11.2: %d states are met", len(kind))
	}
}

// As many places as an expression has room for.
func TestStatesOfMostPlaces(t *testing.T) {
	for _, expr := range []string{
		strings.Repeat("a", 63), strings.Repeat("a", 62) + "b*", strings.Repeat("a", 62) + "b?", strings.Repeat("a", 62) + "b+", strings.Repeat(".", 62) + "a*",
		strings.Repeat("a", 30) + "|" + strings.Repeat("a", 33), strings.Repeat("a", 30) + "|" + strings.Repeat("b", 32), "(" + strings.Repeat("abcdefg|", 7) + "hij)*",
		strings.Repeat("a?", 31) + "bc", strings.Repeat("ab*", 21) + "c", strings.Repeat("[ab]", 15) + "abcd", "(" + strings.Repeat("a|", 30) + "b)*", strings.Repeat("|a", 32),
	} {
		if e := asWords(t, expr); e != api.OK {
			t.Errorf("the words refuse %q: %d", expr, e)
		}
	}
	if e := asWords(t, strings.Repeat("a", 32)+strings.Repeat(".", 32)); e != api.ErrStates {
		t.Errorf("of 64 places, one behind the other: %d", e)
	}
}

func TestStatesAgainstWords(t *testing.T) {
	s := testaid.Source(132)
	count := map[api.Errno]int{}
	for range 500 {
		count[asWords(t, someExpression(&s, 1+s.Below(10), "abc"))]++
	}
	for range 60 {
		count[asWords(t, someExpression(&s, 8+s.Below(20), "ab"))]++
	}
	for range 60 { // many states, about as many as there may be
		expr := ".*a"
		for range 4 + s.Below(4) {
			expr += []string{".", ".", ".", "[a-c]", ".?", "a?", "(aa|.)"}[s.Below(7)]
		}
		count[asWords(t, expr)]++
	}
	if count[api.OK] < 500 || count[api.ErrStates] < 10 || count[api.ErrRegex] < 10 {
		t.Errorf("drawn expressions: %v", count)
	}
	allTexts("ab(|)*+", 4, func(text string) { asWords(t, text) })
}

// Numbers that are no state's, with every byte.
func TestNoSuchState(t *testing.T) {
	for _, expr := range []string{"", "a", "a*b", ".*", ".*a.....", strings.Repeat("a", 63)} {
		d := compiled(t, expr)
		n := d.States()
		for b := range 256 {
			for _, state := range []int{-1, -2, n, n + 1, n + 256, 64, 256, -256, 1 << 32, -1 << 32, math.MaxInt, math.MinInt} {
				if next, e := d.Next(state, byte(b)); next != 0 || e != api.ErrState {
					t.Errorf("P11.2: %q: Next(%d, %#x) = %d, %d, want ErrState", expr, state, b, next, e)
				}
				if d.Accepts(state) {
					t.Errorf("P11.2: %q: Accepts(%d)", expr, state)
				}
			}
			if next, e := d.Next(n-1, byte(b)); e != api.OK || next < -1 || next >= n {
				t.Errorf("P11.2: %q: Next(%d, %#x) = %d, %d", expr, n-1, b, next, e)
			}
		}
	}
	d := compiled(t, strings.Repeat("a", 63))
	if next, e := d.Next(62, 'a'); next != 63 || e != api.OK || !d.Accepts(63) || d.Accepts(62) {
		t.Errorf("P11.2: Next(62, 'a') = %d, %d; Accepts(63) = %v", next, e, d.Accepts(63))
	}
}

func TestNoAutomaton(t *testing.T) {
	var d *regex.DFA
	if d.States() != 0 {
		t.Errorf("R3: States of nil = %d", d.States())
	}
	for _, state := range []int{0, -1, 1, 64, math.MaxInt, math.MinInt} {
		for b := range 256 {
			if next, e := d.Next(state, byte(b)); next != 0 || e != api.ErrArg {
				t.Errorf("R3: Next(%d, %#x) of nil = %d, %d", state, b, next, e)
			}
		}
		if d.Accepts(state) {
			t.Errorf("R3: Accepts(%d) of nil", state)
		}
	}
	for _, text := range []string{"", "a", "\xff"} {
		if d.Match([]byte(text)) || d.Match(nil) {
			t.Errorf("R3: Match(%q) of nil", text)
		}
	}
	refusing, _, _ := regex.Compile("(")
	if refusing.States() != 0 || refusing.Match(nil) {
		t.Error("P11.1: with an error the automaton is nil")
	}
}
