package beam_test

import (
	"slices"
	"testing"

	"augur/api"
	"augur/model"
	"augur/testaid"
)

func TestExamples(t *testing.T) {
	l := ring(t)
	p := poolOf(t, l.w.Config, 200, 4)
	l.finds(p, []int{1}, 1, 3, beams(api.Beam{Tokens: []int{2, 3, 1}}))
	l.finds(p, []int{1}, 3, 1, beams(api.Beam{Tokens: []int{2}}, api.Beam{Tokens: []int{0}, Gap: 12700, Over: true}, api.Beam{Tokens: []int{1}, Gap: 12700}))
	seven := beams(
		api.Beam{Tokens: []int{2, 3}},
		api.Beam{Tokens: []int{0}, Gap: 12700, Over: true},
		api.Beam{Tokens: []int{1, 2}, Gap: 12700},
		api.Beam{Tokens: []int{2, 0}, Gap: 12700, Over: true},
		api.Beam{Tokens: []int{2, 1}, Gap: 12700},
		api.Beam{Tokens: []int{2, 2}, Gap: 12700},
		api.Beam{Tokens: []int{3, 1}, Gap: 12700},
	)
	l.finds(p, []int{1}, 4, 2, seven[:4])
	l.finds(p, []int{1}, 7, 2, seven)
}

func TestExamplesOfErrors(t *testing.T) {
	l := ring(t)
	p := poolOf(t, l.w.Config, 200, 4)
	refuses(t, l.m, p, nil, 1, 1, api.ErrEmpty)
	refuses(t, l.m, p, []int{4}, 1, 1, api.ErrToken)
	refuses(t, l.m, p, []int{1}, 0, 1, api.ErrArg)
	refuses(t, l.m, p, []int{1}, 17, 1, api.ErrArg)
	refuses(t, l.m, p, []int{1}, 1, 0, api.ErrArg)
	refuses(t, l.m, p, []int{1}, 1, 16, api.ErrLong)
	refuses(t, l.m, poolOf(t, l.w.Config, 5, 2), []int{1}, 2, 3, api.ErrFull)
	l.finds(poolOf(t, l.w.Config, 6, 2), []int{1}, 2, 3, beams(api.Beam{Tokens: []int{2, 3, 1}}, api.Beam{Tokens: []int{0}, Gap: 12700, Over: true}))
}

// Behind 0 the ring likes 0 best: the first is over at once, however many tokens there might be.
func TestOverAtOnce(t *testing.T) {
	l := ring(t)
	for most := 1; most < 16; most++ {
		l.finds(l.enough([]int{0}, 1, most, 1), []int{0}, 1, most, beams(api.Beam{Tokens: []int{0}, Over: true}))
		l.finds(l.enough([]int{2, 0}, 1, min(most, 14), 3), []int{2, 0}, 1, min(most, 14), beams(api.Beam{Tokens: []int{0}, Over: true}))
	}
	l.finds(l.enough([]int{0}, 2, 3, 2), []int{0}, 2, 3, beams(api.Beam{Tokens: []int{0}, Over: true}, api.Beam{Tokens: []int{1, 2, 3}, Gap: 12700}))
}

// Of a model that likes all alike the first are those with the lower tokens.
func TestAlikeGaps(t *testing.T) {
	over := func(tokens ...int) api.Beam { return api.Beam{Tokens: tokens, Over: true} }
	three := level(t, 3, 9)
	want := beams(over(0), over(1, 0), over(1, 1, 0), api.Beam{Tokens: []int{1, 1, 1}}, api.Beam{Tokens: []int{1, 1, 2}}, over(1, 2, 0), api.Beam{Tokens: []int{1, 2, 1}}, api.Beam{Tokens: []int{1, 2, 2}}, over(2, 0), over(2, 1, 0))
	for n := 1; n <= len(want); n++ {
		three.finds(three.enough([]int{2}, n, 3, 2), []int{2}, n, 3, want[:n])
	}
	// Of two tokens there is one continuation more than tokens may come.
	two := level(t, 2, 24)
	for most := 1; most < 20; most++ {
		var want []api.Beam
		for ones := range most {
			want = append(want, over(append(slices.Repeat([]int{1}, ones), 0)...))
		}
		want = append(want, api.Beam{Tokens: slices.Repeat([]int{1}, most)})
		for n := 1; n <= api.MaxLive; n++ {
			two.finds(two.enough([]int{1}, n, most, 16), []int{1}, n, most, want[:min(n, len(want))])
		}
	}
}

// Among alike gaps of continuations that are not as long as one another the first unlike token tells, not the length.
func TestAlikeGapsOfUnlikeLengths(t *testing.T) {
	l := ring(t)
	got := l.found(l.enough([]int{1}, 16, 3, 4), []int{1}, 16, 3)
	want := [][]int{{2, 3, 1}, {0}, {1, 2, 3}, {2, 0}, {2, 1, 2}, {2, 2, 3}, {2, 3, 0}, {2, 3, 2}, {2, 3, 3}, {3, 1, 2}, {1, 0}}
	for i, tokens := range want {
		if !slices.Equal(got[i].Tokens, tokens) {
			t.Errorf("P26.3: number %d is %v, want %v", i, got[i], tokens)
		}
	}
	if got[9].Gap != 12700 || got[10].Gap != 25400 {
		t.Errorf("P26.3: the gaps of %v", got)
	}
}

// All that a model of few tokens may go on with, by all short prompts, in pools of blocks of all sizes.
func TestAllContinuations(t *testing.T) {
	s := testaid.Source(2601)
	few := api.Config{Vocab: 3, Width: 4, Heads: 2, KV: 1, Layers: 2, Hidden: 2, Len: 6}
	for _, w := range []api.Weights{testaid.Tiny(), s.Lively(few), s.Tight(few), s.Tight(measures()[1])} {
		l := tellerOf(t, w)
		for _, prompt := range testaid.Lists(3, 0, 1, w.Config.Vocab-1)[1:] {
			for most := 1; most <= 3; most++ {
				all := l.all(prompt, most)
				for _, n := range []int{1, 2, 3, 1 + s.Below(16), 16} {
					want := all[:min(n, len(all))]
					size := 1 + s.Below(16)
					l.finds(l.enough(prompt, n, most, size), prompt, n, most, want)
					if !sameBeams(want, l.first(prompt, n, most)) {
						t.Fatalf("the two writings of the words are not the same")
					}
				}
			}
		}
	}
}

// Drawn models of all kinds, up to the last position; each n, and blocks of each size that a pool may have enough of.
func TestDrawn(t *testing.T) {
	s := testaid.Source(2602)
	over, open, alike := 0, 0, 0
	for _, c := range small() {
		for _, w := range []api.Weights{s.Lively(c), s.Weights(c), s.Tight(c), s.Tight(c)} {
			l := tellerOf(t, w)
			for n := 1; n <= api.MaxLive; n++ {
				prompt := drawn(&s, c, 1+s.Below(c.Len-1))
				most := c.Len - len(prompt)
				if s.Below(2) == 0 {
					most = 1 + s.Below(most)
				}
				fit := sizes(len(prompt), n, most)
				l.asWords(prompt, n, most, fit[s.Below(len(fit))])
				got := l.found(poolOf(t, c, 256, 16), prompt, n, most)
				for i, b := range got {
					if b.Over {
						over++
					} else {
						open++
					}
					if i > 0 && b.Gap == got[i-1].Gap {
						alike++
					}
				}
			}
		}
	}
	if over < 500 || open < 500 || alike < 500 {
		t.Errorf("only %d are over, %d are not, and %d have alike gaps", over, open, alike)
	}
}

// Blocks of each size give the same answer.
func TestSizes(t *testing.T) {
	s := testaid.Source(2603)
	for _, c := range small() {
		l := tellerOf(t, s.Tight(c))
		for range 4 {
			prompt := drawn(&s, c, 1+s.Below(c.Len-1))
			most, n := c.Len-len(prompt), 1+s.Below(9)
			want := l.first(prompt, n, most)
			for _, size := range sizes(len(prompt), n, most) {
				l.finds(l.enough(prompt, n, most, size), prompt, n, most, want)
			}
		}
	}
}

// The greatest model, with a prompt of one token and all others to come, and with one token to come.
func TestGreatestModel(t *testing.T) {
	s := testaid.Source(2604)
	c := measures()[6]
	l := tellerOf(t, s.Lively(c))
	l.asWords(drawn(&s, c, 1), 3, 63, 1)
	l.asWords(drawn(&s, c, 63), 16, 1, 8)
	l.asWords(drawn(&s, c, 50), 16, 9, 5)
	whole := drawn(&s, c, 1)
	got := l.found(l.enough(whole, 16, 63, 5), whole, 16, 63)
	for i, b := range got {
		if gap := l.gap(whole, b.Tokens); gap != b.Gap || b.Over != (b.Tokens[len(b.Tokens)-1] == 0) || !b.Over && len(b.Tokens) != 63 {
			t.Errorf("P26.3: %v has the gap %d", b, gap)
		}
		if i > 0 && ahead(got[i-1], b) >= 0 {
			t.Errorf("P26.3: %v comes ahead of %v", got[i-1], b)
		}
	}
	if len(got) != 16 {
		t.Errorf("P26.3: %d continuations", len(got))
	}
}

// The greatest gaps that 8 bits and the greatest Width let be, one behind the other.
func TestGreatGaps(t *testing.T) {
	s := testaid.Source(2605)
	w := s.Weights(api.Config{Vocab: 2, Width: 32, Heads: 1, KV: 1, Layers: 1, Hidden: 1, Len: 64})
	testaid.Overwrite(w.Embed.Data, 127)
	testaid.Overwrite(w.Final, 127)
	testaid.Overwrite(w.Head.Data, -127)
	testaid.Overwrite(w.Layers[0].O.Data, 0)
	testaid.Overwrite(w.Layers[0].D.Data, 0)
	testaid.Overwrite(w.Head.Data[:32:32], 127)
	l := tellerOf(t, w)
	l.asWords([]int{1}, 16, 63, 5)
	got := l.found(l.enough([]int{1}, 16, 15, 2), []int{1}, 16, 15)
	if last := got[15]; last.Over || len(last.Tokens) != 15 || last.Gap < 15000000 {
		t.Errorf("P26.3: the last one is %v", last)
	}
}

// A model that was read from its file finds the same.
func TestLoadedModel(t *testing.T) {
	s := testaid.Source(2606)
	for _, c := range small() {
		l := tellerOf(t, s.Lively(c))
		b, e := model.Encode(l.w)
		if e != api.OK {
			t.Fatalf("Encode answered the error %d", e)
		}
		if l.m, e = model.Load(b); e != api.OK {
			t.Fatalf("Load answered the error %d", e)
		}
		l.asWords(drawn(&s, c, 1), 5, c.Len-1, 3)
	}
}
