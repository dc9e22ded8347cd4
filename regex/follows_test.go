package regex_test

import (
	"testing"

	"augur/api"
	"augur/regex"
	"augur/testaid"
)

// led: the state to which Next leads from 0; -1, if it leads nowhere on the way.
func led(t *testing.T, d *regex.DFA, text string) int {
	t.Helper()
	state := 0
	for i := 0; i < len(text) && state >= 0; i++ {
		next, e := d.Next(state, text[i])
		if e != api.OK {
			t.Fatalf("P11.2: Next(%d, %#x): %d", state, text[i], e)
		}
		state = next
	}
	return state
}

// somewhat: a drawn expression and its automaton.
func somewhat(s *testaid.Source, n int) (string, *regex.DFA) {
	for {
		expr := someExpression(s, 1+s.Below(n), "abc")
		if d, e, _ := regex.Compile(expr); e == api.OK {
			return expr, d
		}
	}
}

func TestMatchIsTheWayByNext(t *testing.T) {
	s := testaid.Source(134)
	for range 400 {
		expr, d := somewhat(&s, 12)
		allTexts("ab\xff", 5, func(text string) {
			if d.Match([]byte(text)) != d.Accepts(led(t, d, text)) {
				t.Errorf("P11.3: %q: Match(%q) = %v, by Next it is not", expr, text, d.Match([]byte(text)))
			}
		})
		long := make([]byte, 300)
		for i := range long {
			long[i] = "abc1"[s.Below(4)]
		}
		for n := range long {
			if d.Match(long[:n]) != d.Accepts(led(t, d, string(long[:n]))) {
				t.Errorf("P11.3: %q: Match(%q) = %v, by Next it is not", expr, long[:n], d.Match(long[:n]))
			}
		}
	}
}

// What leads somewhere is just what is the beginning of a word. (A beginning goes on to a word by fewer bytes than there are places; each place of these expressions stands for an a or a b.)
func TestBeginningsLeadSomewhere(t *testing.T) {
	s := testaid.Source(135)
	for range 600 {
		expr := someExpression(&s, 1+s.Below(5), "ab")
		expression := tree(t, expr)
		if len(expression.leaves()) > 4 {
			continue
		}
		d := compiled(t, expr)
		begins := map[string]int{}
		allTexts("ab", 8, func(text string) {
			if expression.word(text) {
				for n := range len(text) + 1 {
					begins[text[:n]]++
				}
			}
		})
		allTexts("ab", 4, func(text string) {
			if (led(t, d, text) >= 0) != (begins[text] > 0) {
				t.Errorf("P11.2: %q: behind %q: state %d", expr, text, led(t, d, text))
			}
		})
	}
}

// reached: which states some text leads to from one.
func reached(t *testing.T, d *regex.DFA, from int) []int {
	t.Helper()
	seen := make([]bool, d.States())
	seen[from] = true
	all := []int{from}
	for i := 0; i < len(all); i++ {
		for b := range 256 {
			next, _ := d.Next(all[i], byte(b))
			if next >= 0 && !seen[next] {
				seen[next] = true
				all = append(all, next)
			}
		}
	}
	return all
}

func TestFromEveryStateAWord(t *testing.T) {
	s := testaid.Source(136)
	for range 300 {
		expr, d := somewhat(&s, 20)
		if n := len(reached(t, d, 0)); n != d.States() {
			t.Errorf("P11.2: %q: %d of %d states are reached", expr, n, d.States())
		}
		for state := range d.States() {
			accepts := false
			for _, there := range reached(t, d, state) {
				accepts = accepts || d.Accepts(there)
			}
			if !accepts {
				t.Errorf("P11.2: %q: from %d no word is reached", expr, state)
			}
		}
	}
}

// cutAnywhere: is there a place that parts a text into one of which first holds and one of which second does?
func cutAnywhere(text string, least int, first, second func(text []byte) bool) bool {
	for n := least; n <= len(text); n++ {
		if first([]byte(text[:n])) && second([]byte(text[n:])) {
			return true
		}
	}
	return false
}

func TestWordsOfTwo(t *testing.T) {
	s := testaid.Source(137)
	count := 0
	for range 600 {
		a, da := somewhat(&s, 5)
		b, db := somewhat(&s, 5)
		either, e1, _ := regex.Compile("(" + a + ")|(" + b + ")")
		both, e2, _ := regex.Compile("(" + a + ")(" + b + ")")
		again, e3, _ := regex.Compile("(" + a + ")*")
		if e1 != api.OK || e2 != api.OK || e3 != api.OK {
			continue
		}
		count++
		allTexts("abc", 4, func(text string) {
			w := []byte(text)
			if either.Match(w) != (da.Match(w) || db.Match(w)) {
				t.Errorf("P11.3: (%s)|(%s) matches %q: %v", a, b, text, either.Match(w))
			}
			if both.Match(w) != cutAnywhere(text, 0, da.Match, db.Match) {
				t.Errorf("P11.3: (%s)(%s) matches %q: %v", a, b, text, both.Match(w))
			}
			if again.Match(w) != (text == "" || cutAnywhere(text, 1, da.Match, again.Match)) {
				t.Errorf("P11.3: (%s)* matches %q: %v", a, text, again.Match(w))
			}
		})
	}
	if count < 300 {
		t.Errorf("only %d of 600 drawn pairs are expressions when put together", count)
	}
}
