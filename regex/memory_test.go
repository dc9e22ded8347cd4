package regex_test

import (
	"testing"

	"augur/regex"
	"augur/testaid"
)

// heard: all that an automaton answers.
func heard(d *regex.DFA) machine {
	var m machine
	for state := range d.States() {
		var next [256]int
		for b := range next {
			next[b], _ = d.Next(state, byte(b))
		}
		m.next = append(m.next, next)
		m.ends = append(m.ends, d.Accepts(state))
	}
	return m
}

func TestTextStays(t *testing.T) {
	for _, expr := range []string{"", "a*b", "(a|b)*a", ".*", "[^a]*"} {
		d := compiled(t, expr)
		for _, plain := range []string{"", "a", "aab", "abbba", "\xff\x00"} {
			text := testaid.Roomy([]byte(plain), 'a')
			kept, was := testaid.Guard(text), d.Match(text)
			if !kept() {
				t.Errorf("R5: Match of %q by %q changed it", plain, expr)
			}
			testaid.Overwrite(text, 'z')
			if d.Match([]byte(plain)) != was || d.Match([]byte(plain + "a")[:len(plain)]) != was {
				t.Errorf("R5: Match of %q by %q is %v no more, once the text was written over", plain, expr, was)
			}
		}
	}
}

// What was asked before, of this automaton or of another, or compiled or refused, is not seen.
func TestAnswersHangOnNothingElse(t *testing.T) {
	s := testaid.Source(138)
	for range 100 {
		expr, d := somewhat(&s, 12)
		want := heard(d)
		d.Match([]byte("abcabc"))
		d.Next(d.States(), 'a')
		d.Next(-1, 'b')
		d.Accepts(64)
		somewhat(&s, 12)
		regex.Compile(expr + ")")
		regex.Compile(".*a......")
		other := compiled(t, expr)
		other.Match([]byte("cba"))
		is(t, expr, want)
		for state := range want.next {
			for b, next := range want.next[state] {
				if got, _ := d.Next(state, byte(b)); got != next || d.Accepts(state) != want.ends[state] {
					t.Errorf("R6: %q: Next(%d, %#x) = %d, at first %d", expr, state, b, got, next)
				}
			}
		}
	}
}
