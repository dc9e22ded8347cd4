package beam_test

import (
	"slices"
	"testing"

	"augur/api"
	"augur/testaid"
)

// The first continuation has no gap: it is what a request answers greedily.
func TestFirstIsGreedy(t *testing.T) {
	s := testaid.Source(2640)
	over := 0
	for range 60 {
		w, v := s.Small()
		if s.Below(2) == 0 {
			w = s.Tight(w.Config)
		}
		l := tellerOf(t, w)
		prompt := drawn(&s, w.Config, 1+s.Below(w.Config.Len-1))
		most := 1 + s.Below(w.Config.Len-len(prompt))
		want, e := testaid.Ref(l.m, v, api.Ask{Prompt: prompt, New: most, Params: testaid.Greedy})
		if e != api.OK {
			t.Fatalf("Ref answered the error %d", e)
		}
		got := l.found(poolOf(t, w.Config, 256, 4), prompt, 1+s.Below(5), most)[0]
		if !slices.Equal(got.Tokens, want) || got.Gap != 0 {
			t.Errorf("what follows: behind %v the first one is %v, answered are %v", prompt, got, want)
		}
		if got.Over {
			over++
		}
	}
	if over < 5 || over > 55 {
		t.Errorf("%d of 60 first ones are over", over)
	}
}

// With n one less the answer is one shorter, else the same.
func TestOneLess(t *testing.T) {
	s := testaid.Source(2641)
	for _, c := range small() {
		for _, w := range []api.Weights{s.Lively(c), s.Tight(c)} {
			l := tellerOf(t, w)
			prompt := drawn(&s, c, 1+s.Below(c.Len-1))
			most := 1 + s.Below(c.Len-len(prompt))
			p := poolOf(t, c, 256, 16)
			all := l.found(p, prompt, api.MaxLive, most)
			for n := 1; n < api.MaxLive; n++ {
				l.finds(p, prompt, n, most, all[:min(n, len(all))])
			}
		}
	}
}

// What is answered are continuations, with the gaps of score's marks, in their order, none twice and none the beginning of another.
func TestContinuations(t *testing.T) {
	s := testaid.Source(2642)
	for _, c := range small() {
		for range 6 {
			l := tellerOf(t, s.Tight(c))
			prompt, n := drawn(&s, c, 1+s.Below(c.Len-1)), 1+s.Below(api.MaxLive)
			most := 1 + s.Below(c.Len-len(prompt))
			got := l.found(poolOf(t, c, 256, 16), prompt, n, most)
			if len(got) == 0 || len(got) > n {
				t.Fatalf("P26.3: %d of %d continuations", len(got), n)
			}
			for i, b := range got {
				end := slices.Index(b.Tokens, api.End)
				if b.Over != (end >= 0) || b.Over && end != len(b.Tokens)-1 || len(b.Tokens) > most || !b.Over && len(b.Tokens) != most {
					t.Errorf("P26.3: %v is no continuation by %d tokens", b, most)
				}
				if gap := l.gap(prompt, b.Tokens); gap != b.Gap {
					t.Errorf("P26.3: %v: the gap is %d", b, gap)
				}
				for _, other := range got[:i] {
					if ahead(other, b) >= 0 || slices.Equal(other.Tokens, b.Tokens[:min(len(b.Tokens), len(other.Tokens))]) {
						t.Errorf("P26.3: %v stands ahead of %v", other, b)
					}
				}
			}
		}
	}
}

// If there are fewer than n all are told: by one token as many as there are tokens.
func TestFewerThanAsked(t *testing.T) {
	s := testaid.Source(2643)
	for vocab := 2; vocab <= 20; vocab++ {
		c := api.Config{Vocab: vocab, Width: 2, Heads: 1, KV: 1, Layers: 1, Hidden: 1, Len: 6}
		l := tellerOf(t, s.Tight(c))
		for n := 1; n <= api.MaxLive; n++ {
			prompt := drawn(&s, c, 1+s.Below(5))
			got := l.found(l.enough(prompt, n, 1, 3), prompt, n, 1)
			if len(got) != min(n, vocab) {
				t.Errorf("P26.3: %d of %d continuations by one of %d tokens", len(got), n, vocab)
			}
		}
	}
	// By two tokens of two there are three.
	l := level(t, 2, 5)
	got := l.found(l.enough([]int{1}, 9, 2, 1), []int{1}, 9, 2)
	if !sameBeams(got, l.all([]int{1}, 2)) || len(got) != 3 {
		t.Errorf("P26.3: of three continuations %v", got)
	}
}
