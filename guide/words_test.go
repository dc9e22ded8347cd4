package guide_test

import (
	"math"
	"slices"
	"testing"

	"augur/api"
	"augur/bpe"
	"augur/guide"
	"augur/regex"
	"augur/testaid"
)

// What is here says the chapter's words a second time, one by one, however slow that is, over the automaton of chapter 11.

// spelledAll: the bytes of tokens, one behind the other.
func spelledAll(v api.Vocab, tokens []int) []byte {
	var out []byte
	for _, token := range tokens {
		out = append(out, testaid.Spelled(v, token)...)
	}
	return out
}

// wordLeads: the state to which a token leads; -1, if it leads to none.
func wordLeads(t *testing.T, d *regex.DFA, v api.Vocab, state, token int) int {
	t.Helper()
	if token == 0 {
		return -1
	}
	text := testaid.Spelled(v, token)
	for i := 0; i < len(text) && state >= 0; i++ {
		next, e := d.Next(state, text[i])
		if e != api.OK {
			t.Fatalf("Next(%d, %q) of the automaton: %d", state, text[i], e)
		}
		state = next
	}
	return state
}

// wordFar: of each state, how many tokens are needed to come to one that accepts: 0, if it does itself; -1, if none lead there. Those that are not -1 are the good ones.
func wordFar(t *testing.T, d *regex.DFA, v api.Vocab) []int {
	t.Helper()
	far := make([]int, d.States())
	for state := range far {
		far[state] = -1
		if d.Accepts(state) {
			far[state] = 0
		}
	}
	for n := range d.States() {
		for state := range far {
			for token := 0; token < testaid.Tokens(v) && far[state] < 0; token++ {
				if next := wordLeads(t, d, v, state, token); next >= 0 && far[next] == n {
					far[state] = n + 1
				}
			}
		}
	}
	return far
}

// wordNext: what Next answers of a state and a token that are there, if it is no error.
func wordNext(t *testing.T, d *regex.DFA, v api.Vocab, far []int, state, token int) int {
	t.Helper()
	if token == 0 {
		if d.Accepts(state) {
			return state
		}
		return -1
	}
	next := wordLeads(t, d, v, state, token)
	if next >= 0 && far[next] >= 0 {
		return next
	}
	return -1
}

// wrongNumbers: what is no number from 0 to n - 1.
func wrongNumbers(n int) []int {
	return []int{math.MinInt, math.MinInt32, -65, -2, -1, n, n + 1, n + 64, 256, 1 << 32, 1<<32 + 1, math.MaxInt}
}

// compiled: the automaton of an expression, which must be one.
func compiled(t *testing.T, expr string) *regex.DFA {
	t.Helper()
	d, e, _ := regex.Compile(expr)
	if d == nil || e != api.OK {
		t.Fatalf("%q is no expression: %d", expr, e)
	}
	return d
}

// made: the guide of an expression, which must be one.
func made(t *testing.T, v api.Vocab, expr string) *guide.Guide {
	t.Helper()
	g, e, at := guide.New(v, expr)
	if g == nil || e != api.OK || at != 0 {
		t.Fatalf("P12.1: New(%v, %q) = %v, %d, %d, want a guide", v, expr, g, e, at)
	}
	return g
}

// refused: New answers an error and its place.
func refused(t *testing.T, v api.Vocab, expr string, want api.Errno, place int) {
	t.Helper()
	if g, e, at := guide.New(v, expr); g != nil || e != want || at != place {
		t.Errorf("P12.1: New(%v, %q) = %v, %d, %d, want nil, %d, %d", v, expr, g, e, at, want, place)
	}
}

// allows: in a state just these tokens are allowed.
func allows(t *testing.T, g *guide.Guide, state, size int, tokens ...int) {
	t.Helper()
	list, e := g.Allow(state)
	if e != api.OK || len(list) != size {
		t.Fatalf("P12.3: Allow(%d) = %v, %d, want %d bools", state, list, e, size)
	}
	for token, allowed := range list {
		if allowed != slices.Contains(tokens, token) {
			t.Errorf("P12.3: Allow(%d) tells %v of token %d, want just %v", state, allowed, token, tokens)
		}
	}
}

// leads: what Next answers, without an error.
func leads(t *testing.T, g *guide.Guide, state, token, want int) {
	t.Helper()
	if next, e := g.Next(state, token); next != want || e != api.OK {
		t.Errorf("P12.4: Next(%d, %d) = %d, %d, want %d", state, token, next, e, want)
	}
}

// fails: Next answers an error.
func fails(t *testing.T, g *guide.Guide, state, token int, want api.Errno) {
	t.Helper()
	if next, e := g.Next(state, token); next != 0 || e != want {
		t.Errorf("P12.4: Next(%d, %d) = %d, %d, want 0, %d", state, token, next, e, want)
	}
}

// noState: Allow and Next refuse a state.
func noState(t *testing.T, g *guide.Guide, state int, want api.Errno, tokens ...int) {
	t.Helper()
	if list, e := g.Allow(state); len(list) != 0 || e != want {
		t.Errorf("P12.3: Allow(%d) = %v, %d, want %d", state, list, e, want)
	}
	for _, token := range tokens {
		fails(t, g, state, token, want)
	}
}

// asWords: a guide answers everything as the words say it.
func asWords(t *testing.T, g *guide.Guide, v api.Vocab, expr string) {
	t.Helper()
	d := compiled(t, expr)
	far, size := wordFar(t, d, v), testaid.Tokens(v)
	for state := range d.States() {
		var tokens []int
		for token := range size {
			want := wordNext(t, d, v, far, state, token)
			if want >= 0 {
				tokens = append(tokens, token)
			}
			leads(t, g, state, token, want)
		}
		allows(t, g, state, size, tokens...)
		for _, token := range wrongNumbers(size) {
			fails(t, g, state, token, api.ErrToken)
		}
	}
	for _, state := range wrongNumbers(d.States()) {
		noState(t, g, state, api.ErrState, -1, 0, 1, size-1, size)
	}
	if g.Start() != 0 {
		t.Errorf("P12.2: Start() = %d", g.Start())
	}
	if t.Failed() {
		t.Fatalf("this was the guide of %q over %v", expr, v)
	}
}

// holds: New answers as the words say, and so does its guide, if it is one.
func holds(t *testing.T, v api.Vocab, expr string) api.Errno {
	t.Helper()
	if e := bpe.Check(v); e != api.OK {
		refused(t, v, expr, api.ErrVocab, 0)
		return api.ErrVocab
	}
	d, e, at := regex.Compile(expr)
	if e != api.OK {
		refused(t, v, expr, e, at)
		return e
	}
	if wordFar(t, d, v)[0] < 0 {
		refused(t, v, expr, api.ErrGuide, 0)
		return api.ErrGuide
	}
	asWords(t, made(t, v, expr), v, expr)
	return api.OK
}

// small: the vocabulary of the chapter's examples.
func small() api.Vocab { return testaid.Vocab("ab", [2]int{1, 2}) }

// someExpression: one of so many places, of the letters and of what stands for several bytes.
func someExpression(s *testaid.Source, n int, letters string) string {
	if n <= 1 {
		letter := string(letters[s.Below(len(letters))])
		return []string{letter, letter, letter, letter, letter + "?", letter + "*", letter + "+", ".", "[^" + letter + "]", "[" + letter + letters[:1] + "]", "()"}[s.Below(11)]
	}
	k := 1 + s.Below(n-1)
	a, b := someExpression(s, k, letters), someExpression(s, n-k, letters)
	return []string{a + b, a + b, a + b, "(" + a + "|" + b + ")", "(" + a + "|" + b + ")", a + "|" + b, "(" + a + b + ")*", "(" + a + "|" + b + ")+", "(" + a + b + ")?"}[s.Below(9)]
}

// somewhat: a drawn vocabulary and a drawn expression that have a guide.
func somewhat(s *testaid.Source) (api.Vocab, string, *guide.Guide) {
	for {
		v, expr := s.Vocab("abcd", s.Below(12)), someExpression(s, 1+s.Below(10), "abcd")
		if g, e, _ := guide.New(v, expr); e == api.OK {
			return v, expr, g
		}
	}
}
