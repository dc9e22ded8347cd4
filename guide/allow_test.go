package guide_test

import (
	"strings"
	"testing"

	"augur/api"
	"augur/testaid"
)

func TestAllowExamples(t *testing.T) {
	g := made(t, small(), "(ab)*")
	if g.Start() != 0 {
		t.Errorf("P12.2: Start() = %d", g.Start())
	}
	allows(t, g, 0, 4, 0, 1, 3)
	allows(t, g, 1, 4, 2)
	leads(t, g, 0, 3, 0)
	leads(t, g, 0, 1, 1)
	leads(t, g, 1, 2, 0)
	leads(t, g, 0, 0, 0)
	leads(t, g, 1, 0, -1)
	leads(t, g, 0, 2, -1)
	fails(t, g, 0, 4, api.ErrToken)
	fails(t, g, 2, 4, api.ErrState)

	g = made(t, small(), "ac|b")
	allows(t, g, 0, 4, 2)
	allows(t, g, 1, 4)
	allows(t, g, 2, 4, 0)

	g = made(t, small(), "")
	allows(t, g, 0, 4, 0)
	noState(t, g, 1, api.ErrState, 0, 4)
}

// States that are not good are there all the same: nothing is allowed in them, and nothing leads to them.
func TestStatesThatAreNotGood(t *testing.T) {
	g := made(t, small(), "a(b|cc)|c") // behind a 1, behind c 2, behind ab 2, behind ac 3
	allows(t, g, 0, 4, 1, 3)
	allows(t, g, 1, 4, 2)
	allows(t, g, 2, 4, 0)
	allows(t, g, 3, 4)
	leads(t, g, 0, 1, 1)
	leads(t, g, 0, 3, 2)
	for token := range 4 {
		leads(t, g, 3, token, -1)
	}
	fails(t, g, 3, 4, api.ErrToken)
	fails(t, g, 3, -1, api.ErrToken)
	noState(t, g, 4, api.ErrState, -1, 0, 4)

	// From a state that is not good tokens lead on, for a long way; and a good one has tokens that lead astray.
	g = made(t, small(), "b|a(ab)*abac")
	allows(t, g, 0, 4, 2)
	leads(t, g, 0, 1, -1)
	for state := range compiled(t, "b|a(ab)*abac").States() {
		if state != 0 && state != 2 {
			allows(t, g, state, 4)
		}
	}
	allows(t, g, 2, 4, 0)

	// Going round and round between states that are not good makes none of them good.
	g = made(t, small(), "b|a(a|b)*c")
	allows(t, g, 0, 4, 2)
	allows(t, g, 1, 4)
	for token := range 4 {
		leads(t, g, 1, token, -1)
	}
}

// Tokens of the same bytes are told alike.
func TestTokensAlike(t *testing.T) {
	v := testaid.Vocab("ab", [2]int{1, 1}, [2]int{1, 3}, [2]int{3, 1}, [2]int{2, 1}) // 4 and 5 are aaa
	g := made(t, v, "a(aa)*b")                                                       // behind an odd run of a 1, behind an even one 2, behind the b 3
	allows(t, g, 0, 7, 1, 3, 4, 5)
	allows(t, g, 1, 7, 1, 2, 3, 4, 5)
	allows(t, g, 2, 7, 1, 3, 4, 5)
	allows(t, g, 3, 7, 0)
	for state, want := range []int{1, 2, 1, -1} {
		leads(t, g, state, 4, want)
		leads(t, g, state, 5, want)
		leads(t, g, state, 6, -1)
	}
}

// Tokens of many bytes: that lead through several states, through one again and again, fail at the first byte, at the last one, or are one byte too long.
func TestLongTokens(t *testing.T) {
	v := testaid.Vocab("ab", [2]int{1, 1}, [2]int{3, 3}, [2]int{4, 4}, [2]int{5, 5}, [2]int{5, 4}, [2]int{7, 3}, [2]int{8, 1}, [2]int{9, 2}, [2]int{2, 5})
	all := []string{"", "a", "b", "aa", "aaaa", strings.Repeat("a", 8), strings.Repeat("a", 16), strings.Repeat("a", 12), strings.Repeat("a", 14), strings.Repeat("a", 15), strings.Repeat("a", 15) + "b", "b" + strings.Repeat("a", 8)}
	for token, want := range all {
		if got := testaid.Spelled(v, token); got != want {
			t.Fatalf("token %d is %q", token, got)
		}
	}
	size := len(all)
	g := made(t, v, strings.Repeat("a", 16)) // the state behind n times a is n
	allows(t, g, 0, size, 1, 3, 4, 5, 6, 7, 8, 9)
	allows(t, g, 1, size, 1, 3, 4, 5, 7, 8, 9)
	allows(t, g, 2, size, 1, 3, 4, 5, 7, 8)
	allows(t, g, 4, size, 1, 3, 4, 5, 7)
	allows(t, g, 8, size, 1, 3, 4, 5)
	allows(t, g, 9, size, 1, 3, 4)
	allows(t, g, 15, size, 1)
	allows(t, g, 16, size, 0)
	leads(t, g, 0, 6, 16)
	leads(t, g, 0, 10, -1)
	leads(t, g, 1, 9, 16)
	leads(t, g, 2, 9, -1)
	leads(t, g, 3, 5, 11)
	leads(t, g, 15, 3, -1)

	g = made(t, v, "a*") // one state, again and again
	allows(t, g, 0, size, 0, 1, 3, 4, 5, 6, 7, 8, 9)
	leads(t, g, 0, 6, 0)
	g = made(t, v, "(aaa)*") // round three states, several times
	allows(t, g, 0, size, 0, 1, 3, 4, 5, 6, 7, 8, 9)
	for token, next := range []int{0, 1, -1, 2, 1, 2, 1, 0, 2, 0, -1, -1} {
		leads(t, g, 0, token, next)
	}
	for token, next := range []int{-1, 2, -1, 0, 2, 0, 2, 1, 0, 1, -1, -1} {
		leads(t, g, 1, token, next)
	}
	g = made(t, v, strings.Repeat("a", 15)+"b|b") // fails at the last byte, and not there
	allows(t, g, 0, size, 1, 2, 3, 4, 5, 7, 8, 9, 10)
	leads(t, g, 0, 6, -1)
	leads(t, g, 0, 11, -1)
	leads(t, g, 0, 10, 2)
	leads(t, g, 0, 2, 2)
}

// The end where the state accepts and where it does not; it leads nowhere else than where it stands.
func TestTheEnd(t *testing.T) {
	g := made(t, small(), "a?b?a?") // from every state the end
	for state := range compiled(t, "a?b?a?").States() {
		leads(t, g, state, 0, state)
	}
	text := strings.Repeat("a", 63)
	g = made(t, small(), text)
	for state := range 63 {
		leads(t, g, state, 0, -1)
		leads(t, g, state, 1, state+1)
		leads(t, g, state, 2, -1)
		leads(t, g, state, 3, -1)
		allows(t, g, state, 4, 1)
	}
	leads(t, g, 63, 0, 63)
	allows(t, g, 63, 4, 0)
	noState(t, g, 64, api.ErrState, 0, 1, 4)
	g = made(t, testaid.Vocab("z"), "c*") // a state that accepts is good though no token leads on
	allows(t, g, 0, 2, 0)
	leads(t, g, 0, 0, 0)
	leads(t, g, 0, 1, -1)
}

// Of a state and a token that are both none it is the state that is told.
func TestErrorsInTheirOrder(t *testing.T) {
	for _, expr := range []string{"", "(ab)*", "ac|b", ".*a....."} {
		g, n := made(t, small(), expr), compiled(t, expr).States()
		for _, state := range wrongNumbers(n) {
			noState(t, g, state, api.ErrState, append(wrongNumbers(4), 0, 1, 3)...)
		}
		for state := range n {
			for _, token := range wrongNumbers(4) {
				fails(t, g, state, token, api.ErrToken)
			}
		}
	}
	for _, state := range []int{0, 1} { // the last token, and one more, of the least vocabulary and of the greatest
		least := made(t, testaid.Vocab("a"), "a*a")
		leads(t, least, state, 1, 1)
		fails(t, least, state, 2, api.ErrToken)
	}
	full := testaid.Vocab(testaid.Letters(48))
	for i := range 15 {
		full.Pairs = append(full.Pairs, [2]int{1 + i, 1})
	}
	g := made(t, full, ".*")
	leads(t, g, 0, 63, 0)
	fails(t, g, 0, 64, api.ErrToken)
}

func TestGuidesAgainstTheWords(t *testing.T) {
	s := testaid.Source(140)
	for range 1500 {
		v, expr, g := somewhat(&s)
		asWords(t, g, v, expr)
	}
}

// Vocabularies of many long tokens, expressions that read whole tokens.
func TestGuidesOfManyTokens(t *testing.T) {
	s := testaid.Source(141)
	for range 150 {
		v := s.Vocab("abcd", 200)
		var parts []string
		for range 1 + s.Below(3) {
			parts = append(parts, testaid.Spelled(v, 1+s.Below(testaid.Tokens(v)-1)))
		}
		expr := []string{strings.Join(parts, "|"), "(" + strings.Join(parts, "|") + ")*", strings.Join(parts, "") + "[^a]?"}[s.Below(3)]
		if e := holds(t, v, expr); e != api.OK && e != api.ErrStates {
			t.Errorf("P12.1: New(%v, %q): %d", v, expr, e)
		}
	}
}
