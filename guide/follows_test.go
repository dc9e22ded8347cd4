package guide_test

import (
	"slices"
	"strings"
	"testing"

	"augur/api"
	"augur/guide"
	"augur/regex"
	"augur/testaid"
)

// taken: goes on by a token that must be allowed; tells the state.
func taken(t *testing.T, g *guide.Guide, state, token int) int {
	t.Helper()
	next, e := g.Next(state, token)
	if e != api.OK || next < 0 {
		t.Fatalf("P12.4: Next(%d, %d) = %d, %d of an allowed token", state, token, next, e)
	}
	return next
}

// allowedIn: the tokens that are allowed in a state, which must be some.
func allowedIn(t *testing.T, g *guide.Guide, state int) []int {
	t.Helper()
	list, e := g.Allow(state)
	var tokens []int
	for token, allowed := range list {
		if allowed {
			tokens = append(tokens, token)
		}
	}
	if e != api.OK || len(tokens) == 0 {
		t.Fatalf("P12.3: nothing is allowed in state %d: %d", state, e)
	}
	return tokens
}

// wayOut: the fewest tokens by which a state is come to in which the end is allowed, as the guide itself tells it.
func wayOut(t *testing.T, g *guide.Guide, from int) []int {
	t.Helper()
	type met struct {
		state  int
		tokens []int
	}
	seen := map[int]int{from: 1}
	for list := []met{{state: from}}; len(list) > 0; list = list[1:] {
		at := list[0]
		allowed := allowedIn(t, g, at.state)
		if allowed[0] == api.End {
			return at.tokens
		}
		for _, token := range allowed {
			next := taken(t, g, at.state, token)
			if seen[next] == 0 {
				seen[next] = 1
				list = append(list, met{next, append(slices.Clone(at.tokens), token)})
			}
		}
	}
	t.Fatalf("what follows: from state %d the end is never allowed", from)
	return nil
}

// Whoever takes allowed tokens is never stuck; what was taken goes on to a word by at most 63 tokens; it is a word where the end is taken.
func TestNeverStuck(t *testing.T) {
	s := testaid.Source(142)
	for range 600 {
		v, expr, g := somewhat(&s)
		d := compiled(t, expr)
		state := g.Start()
		var tokens []int
		for range 25 {
			rest := wayOut(t, g, state)
			if len(rest) > 63 || !d.Match(spelledAll(v, slices.Concat(tokens, rest))) {
				t.Fatalf("what follows: %q over %v: %v with %v behind it is no word, or they are more than 63", expr, v, tokens, rest)
			}
			allowed := allowedIn(t, g, state)
			if ends := allowed[0] == api.End; ends != d.Match(spelledAll(v, tokens)) {
				t.Fatalf("what follows: %q over %v: behind %v the end is allowed: %v", expr, v, tokens, ends)
			}
			token := allowed[s.Below(len(allowed))]
			if next := taken(t, g, state, token); token != api.End {
				state, tokens = next, append(tokens, token)
			} else if next != state {
				t.Fatalf("P12.4: the end leads from %d to %d", state, next)
			}
		}
	}
}

// behindAll: the state behind tokens, of which each must be allowed; -1, if one is not.
func behindAll(t *testing.T, g *guide.Guide, tokens []int) int {
	t.Helper()
	state := g.Start()
	for i := 0; i < len(tokens) && state >= 0; i++ {
		next, e := g.Next(state, tokens[i])
		if e != api.OK {
			t.Fatalf("P12.4: Next(%d, %d): %d", state, tokens[i], e)
		}
		state = next
	}
	return state
}

// allLists gives all lists of tokens from 1 on, of at most so many.
func allLists(size, most int, give func(tokens []int)) {
	var rest func(tokens []int)
	rest = func(tokens []int) {
		give(tokens)
		for token := 1; token < size && len(tokens) < most; token++ {
			rest(append(slices.Clone(tokens), token))
		}
	}
	rest(nil)
}

// goesOn: can a list of tokens go on to a word, by at most so many tokens?
func goesOn(d *regex.DFA, v api.Vocab, tokens []int, most int) bool {
	found := false
	allLists(1+len(v.Base), most, func(rest []int) {
		found = found || d.Match(spelledAll(v, slices.Concat(tokens, rest)))
	})
	return found
}

// Of all short lists of tokens: those whose bytes are a word are allowed token by token, with the end behind; and those that can't go on to a word are not allowed. (Base tokens are enough to go on; of these expressions as many as there are places.)
func TestListsOfTokens(t *testing.T) {
	s := testaid.Source(143)
	words, stuck := 0, 0
	for range 250 {
		v := s.Vocab("abc", s.Below(4))
		expr := someExpression(&s, 1+s.Below(5), "abc")
		g, e, _ := guide.New(v, expr)
		if e != api.OK {
			if e != api.ErrGuide || goesOn(compiled(t, expr), v, nil, 5) {
				t.Errorf("P12.1: New(%v, %q): %d", v, expr, e)
			}
			continue
		}
		d := compiled(t, expr)
		allLists(testaid.Tokens(v), 3, func(tokens []int) {
			state := behindAll(t, g, tokens)
			if d.Match(spelledAll(v, tokens)) {
				words++
				if state < 0 {
					t.Fatalf("what follows: %q over %v: %v is a word and not allowed", expr, v, tokens)
				}
				leads(t, g, state, api.End, state)
			} else if state >= 0 {
				leads(t, g, state, api.End, -1)
			} else if stuck++; stuck%40 == 0 && goesOn(d, v, tokens, 5) {
				t.Errorf("what follows: %q over %v: %v goes on to a word and is not allowed", expr, v, tokens)
			}
		})
	}
	if words < 1000 || stuck < 1000 {
		t.Errorf("too few of one kind: %d words, %d that are not allowed", words, stuck)
	}
}

// Pairs make no state good: what can be made of tokens can be made of base tokens. So a guide without the pairs allows the same base tokens.
func TestPairsMakeNothingGood(t *testing.T) {
	s := testaid.Source(144)
	for range 300 {
		v, expr, g := somewhat(&s)
		plain := made(t, api.Vocab{Base: v.Base}, expr)
		for state := range compiled(t, expr).States() {
			for token := range 1 + len(v.Base) {
				want, _ := plain.Next(state, token)
				leads(t, g, state, token, want)
			}
		}
	}
}

// The end is reached by 63 tokens at most, and by no fewer where each reads one byte; longer tokens make the way shorter.
func TestWayOut(t *testing.T) {
	for n := range 64 {
		expr := strings.Repeat("a", n)
		if rest := wayOut(t, made(t, testaid.Vocab("a"), expr), 0); len(rest) != n {
			t.Errorf("what follows: of %d times a the end is reached by %d tokens", n, len(rest))
		}
		long := testaid.Vocab("ba", [2]int{2, 2}, [2]int{3, 3}, [2]int{4, 4}, [2]int{5, 5})
		want := n / 16
		for rest := n % 16; rest > 0; rest &= rest - 1 {
			want++
		}
		if rest := wayOut(t, made(t, long, expr), 0); len(rest) != want {
			t.Errorf("what follows: of %d times a the end is reached by %d tokens, want %d", n, len(rest), want)
		}
	}
	s := testaid.Source(145)
	for range 300 {
		v, expr, g := somewhat(&s)
		far := wordFar(t, compiled(t, expr), v)
		for state, n := range far {
			if n > 63 || n >= 0 && len(wayOut(t, g, state)) != n {
				t.Errorf("what follows: %q over %v: from %d the end is reached by %v, want %d tokens", expr, v, state, wayOut(t, g, state), n)
			}
		}
	}
}
