package guide_test

import (
	"slices"
	"testing"

	"augur/api"
	"augur/guide"
	"augur/testaid"
)

// roomy: the vocabulary with spare room behind its lists.
func roomy(v api.Vocab) api.Vocab {
	return api.Vocab{Base: testaid.Roomy(v.Base, 'a'), Pairs: testaid.Roomy(v.Pairs, [2]int{1, 1})}
}

func overwrite(v api.Vocab) {
	testaid.Overwrite(v.Base, 'z')
	testaid.Overwrite(v.Pairs, [2]int{2, 1})
}

// What is handed in stays, if it is refused too, and the room behind it.
func TestArgumentsStay(t *testing.T) {
	s := testaid.Source(146)
	for i := range 300 {
		plain, expr, _ := somewhat(&s)
		if i%3 == 0 {
			plain = testaid.WrongVocabs()[i/3%10]
		}
		expr = []string{expr, expr + ")", "y+", ".*a......"}[i%4]
		v := roomy(plain)
		base, pairs := testaid.Guard(v.Base), testaid.Guard(v.Pairs)
		if g, e, _ := guide.New(v, expr); e == api.OK {
			for state := range compiled(t, expr).States() {
				g.Allow(state)
				g.Next(state, 1)
			}
		}
		if !base() || !pairs() {
			t.Errorf("P12.5: New(%v, %q) changed what was handed in, or the room behind it", plain, expr)
		}
	}
}

// What was handed in may be written over behind New: ahead of the first question, and between two.
func TestNothingIsKept(t *testing.T) {
	s := testaid.Source(147)
	for i := range 300 {
		plain, expr, _ := somewhat(&s)
		v := roomy(plain)
		g := made(t, v, expr)
		if i%2 == 0 {
			g.Allow(0)
			g.Next(compiled(t, expr).States()-1, 1)
		}
		overwrite(v)
		asWords(t, g, plain, expr)
	}
}

// Answers written into, their room too, change nothing: not the guide, not one another.
func TestAnswersAreApart(t *testing.T) {
	s := testaid.Source(148)
	for range 300 {
		v, expr, g := somewhat(&s)
		for state := range compiled(t, expr).States() {
			one, _ := g.Allow(state)
			two, _ := g.Allow(state)
			kept := slices.Clone(two)
			for i := range one {
				one[i] = !one[i]
			}
			if !slices.Equal(two, kept) {
				t.Errorf("P12.5: writing over an answer of Allow(%d) changed another", state)
			}
			testaid.Overwrite(one, state%2 == 0)
			testaid.Overwrite(two, state%2 == 1)
		}
		asWords(t, g, v, expr)
	}
}

// ask: one question to a guide.
type ask struct{ state, token int }

// heard: what a guide answers to a question: what Allow tells, if the token is -2, else what Next does.
func (a ask) heard(g *guide.Guide) (out []int) {
	if a.token != -2 {
		next, e := g.Next(a.state, a.token)
		return []int{next, int(e)}
	}
	list, e := g.Allow(a.state)
	for token, allowed := range list {
		if allowed {
			out = append(out, token)
		}
	}
	return append(out, -1, len(list), int(e))
}

// Of two guides of the same one is asked each question anew, the other all of them, again and again, in any order, among wrong ones: both tell the same.
func TestAnswersHangOnNothingElse(t *testing.T) {
	s := testaid.Source(149)
	for range 200 {
		v, expr, g := somewhat(&s)
		n := compiled(t, expr).States()
		for range 40 {
			a := ask{s.Below(n+2) - 1, s.Below(testaid.Tokens(v)+3) - 2}
			if s.Below(3) == 0 {
				a.token = -2
			}
			fresh := made(t, v, expr)
			if got, want := a.heard(g), a.heard(fresh); !slices.Equal(got, want) {
				t.Fatalf("P12.5: %q over %v: %v: %v, asked at first %v", expr, v, a, got, want)
			}
		}
		asWords(t, g, v, expr)
	}
}

// Two guides know nothing of one another: not those of one vocabulary and two expressions, nor of two vocabularies and one expression.
func TestGuidesAreApart(t *testing.T) {
	one, other := made(t, small(), "(ab)*"), made(t, small(), "(ba)*a?")
	third := made(t, testaid.Vocab("bac", [2]int{2, 3}), "(ab)*")
	for range 2 {
		asWords(t, one, small(), "(ab)*")
		asWords(t, other, small(), "(ba)*a?")
		asWords(t, third, testaid.Vocab("bac", [2]int{2, 3}), "(ab)*")
	}
	if one.Start() != 0 || other.Start() != 0 {
		t.Errorf("P12.2: Start: %d, %d", one.Start(), other.Start())
	}
}
