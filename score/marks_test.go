package score_test

import (
	"math"
	"slices"
	"testing"

	"augur/api"
	"augur/model"
	"augur/testaid"
)

func TestMarksExamples(t *testing.T) {
	m := ring(t)
	marksAre(t, m, []int{1, 2, 3, 1}, 0, 0, 0, 0, 0, 0)
	marksAre(t, m, []int{1, 3}, 3, 12700)
	marksAre(t, m, []int{2, 2, 3}, 3, 12700, 0, 0)
	marksAre(t, m, []int{2})
	notMarked(t, m, nil, api.ErrEmpty)
	notMarked(t, m, make([]int, 17), api.ErrLong)
	notMarked(t, m, []int{1, 4}, api.ErrToken)
}

// What comes behind 1 in the ring: 2, then 0, 1, 3; behind 0: 0, then 1, 2, 3.
func TestRanksOfTheRing(t *testing.T) {
	m := ring(t)
	for place, token := range []int{2, 0, 1, 3} {
		marksAre(t, m, []int{1, token}, place, 12700*min(place, 1))
	}
	for token := range 4 {
		marksAre(t, m, []int{0, token}, token, 12700*min(token, 1))
	}
	marksAre(t, m, slices.Repeat([]int{0}, 16), slices.Repeat([]int{0}, 30)...)
	marksAre(t, m, []int{3, 2, 1, 0}, 2, 12700, 2, 12700, 1, 12700)
}

// Chapter 20's model says of 0 nothing, and likes just what stood there last: where all logits are alike the rank is the token's number, and there is no gap.
func TestAlikeLogits(t *testing.T) {
	m := made(t, testaid.Tiny())
	for token := range 3 {
		marksAre(t, m, []int{0, token}, token, 0)
	}
	marksAre(t, m, []int{1, 1, 1}, 0, 0, 0, 0)
	marksAre(t, m, []int{1, 0, 2}, 1, 90, 2, 90)
	marksAre(t, m, []int{2, 1}, 2, 90)
}

// The greatest gap between two logits that 8 bits and the greatest Width let be: the last vector is 127 in all numbers, one row of Head is 127, all others -127.
func TestGreatGaps(t *testing.T) {
	s := testaid.Source(2401)
	w := s.Weights(api.Config{Vocab: 64, Width: 32, Heads: 1, KV: 1, Layers: 1, Hidden: 1, Len: 64})
	testaid.Overwrite(w.Embed.Data, 127)
	testaid.Overwrite(w.Final, 127)
	testaid.Overwrite(w.Head.Data, -127)
	testaid.Overwrite(w.Layers[0].O.Data, 0)
	testaid.Overwrite(w.Layers[0].D.Data, 0)
	testaid.Overwrite(w.Head.Data[9*32:10*32:10*32], 127)
	m := made(t, w)
	text := slices.Repeat([]int{63}, 64)
	marks := marked(t, m, text)
	marksAsWords(t, m, w, text)
	if len(marks) != 63 || marks[62].Rank != 63 || marks[62].Gap < 1000000 {
		t.Errorf("P24.1: the last of %d marks is %v", len(marks), marks[62])
	}
	bestIs(t, m, 1, api.OK, text, text[:63], text)
	bestIs(t, m, 2, api.OK, text, text[:63], []int{63, 9, 9, 9, 9})
}

// All texts of up to five tokens.
func TestAllShortTexts(t *testing.T) {
	s := testaid.Source(2402)
	for _, w := range []api.Weights{testaid.Ring(), testaid.Tiny(), s.Lively(measures()[2])} {
		m := made(t, w)
		var tokens []int
		for token := range w.Config.Vocab {
			tokens = append(tokens, token)
		}
		for _, text := range testaid.Lists(5, tokens...)[1:] {
			marksAsWords(t, m, w, text)
		}
	}
}

func TestMarksOfDrawnTexts(t *testing.T) {
	s := testaid.Source(2403)
	ranks := map[int]int{}
	for _, c := range measures() {
		for _, weights := range []func(api.Config) api.Weights{s.Weights, s.Lively} {
			w := weights(c)
			m := made(t, w)
			for _, n := range []int{1, 1 + s.Below(c.Len), 1 + s.Below(c.Len), max(1, c.Len-1), c.Len} {
				text := drawnText(&s, c, n)
				marksAsWords(t, m, w, text)
				for _, mark := range marked(t, m, text) {
					ranks[mark.Rank]++
				}
			}
		}
	}
	if len(ranks) < 40 {
		t.Errorf("only %d unlike ranks were seen", len(ranks))
	}
}

// A model that was read from its file finds the same.
func TestMarksOfALoadedModel(t *testing.T) {
	s := testaid.Source(2404)
	for _, c := range measures() {
		w := s.Lively(c)
		b, e := model.Encode(w)
		if e != api.OK {
			t.Fatalf("Encode answered the error %d", e)
		}
		m, e := model.Load(b)
		if e != api.OK {
			t.Fatalf("Load answered the error %d", e)
		}
		marksAsWords(t, m, w, drawnText(&s, c, c.Len))
		bestAsWords(t, m, w, drawnTexts(&s, c, 4, c.Len)...)
	}
}

// Without a model nothing else is told.
func TestMarksWithoutAModel(t *testing.T) {
	for _, tokens := range [][]int{nil, {}, {0}, {1, 2}, {-1}, {64}, make([]int, 65), make([]int, 1<<20)} {
		notMarked(t, nil, tokens, api.ErrArg)
	}
}

// badTokens: numbers that no token of so many has.
func badTokens(vocab int) []int {
	return []int{-1, vocab, vocab + 1, -vocab, math.MinInt, math.MaxInt, math.MinInt + 1, 1 << 32, -1 << 32, vocab - 1 + 1<<32, 64, 256}
}

func TestMarksRefuses(t *testing.T) {
	s := testaid.Source(2405)
	for _, c := range measures() {
		w := s.Lively(c)
		m := made(t, w)
		notMarked(t, m, nil, api.ErrEmpty)
		notMarked(t, m, []int{}, api.ErrEmpty)
		notMarked(t, m, drawnText(&s, c, c.Len+1), api.ErrLong)
		notMarked(t, m, make([]int, 1<<20), api.ErrLong)
		for _, bad := range badTokens(c.Vocab) {
			notMarked(t, m, []int{bad}, api.ErrToken)
			for at := range c.Len {
				text := drawnText(&s, c, c.Len)
				text[at] = bad
				notMarked(t, m, text, api.ErrToken)
				notMarked(t, m, append(text, 0), api.ErrLong)
			}
			notMarked(t, m, append(drawnText(&s, c, c.Len), bad), api.ErrLong)
		}
		marksAsWords(t, m, w, []int{0})
		marksAsWords(t, m, w, []int{c.Vocab - 1})
		marksAsWords(t, m, w, slices.Repeat([]int{c.Vocab - 1}, c.Len))
		marksAsWords(t, m, w, make([]int, c.Len))
	}
}
