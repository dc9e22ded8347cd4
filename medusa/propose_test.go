package medusa_test

import (
	"math"
	"slices"
	"testing"

	"augur/api"
	"augur/model"
	"augur/testaid"
)

func TestExamples(t *testing.T) {
	gives(t, example(), []int{2, 1}, raws(-1, 1, -1, 2, 0, 2, 1, 2))
	gives(t, example(), []int{1, 2}, raws(-1, 1, 0, 2, 0, 3))
	gives(t, example(), []int{9}, raws(-1, 1, -1, 2, -1, 0, -1, 3))
	gives(t, example(), nil, nil)
	gives(t, example(), []int{0, 3}, nil)
	gives(t, example(), []int{1, 1, 1}, raws(-1, 1, 0, 2))
	gives(t, example(), []int{1, 1}, raws(-1, 1, 0, 2))
}

// 64 nodes of depth 1, and then 32 of depth 2.
func TestExampleOfMost(t *testing.T) {
	var want []api.RawNode
	for token := range 64 {
		want = append(want, api.RawNode{Parent: -1, Token: token})
	}
	for parent := range 32 {
		want = append(want, api.RawNode{Parent: parent, Token: 0})
	}
	gives(t, level(64, 2), []int{64, 1}, want)
	gives(t, level(64, 3), []int{64, 1, 1}, want)
}

// DOC.md's ring: one matrix, which says what comes one later.
func TestRing(t *testing.T) {
	s := testaid.Source(185)
	w := s.Weights(api.Config{Vocab: 4, Width: 4, Heads: 1, KV: 1, Layers: 1, Hidden: 1, Len: 16, Medusa: 1})
	w.Medusa[0].Data = []int8{100, 0, 0, 0, 0, 0, 100, 0, 0, 0, 0, 100, 0, 100, 0, 0}
	m := newModel(t, w)
	for token, later := range []int{0, 3, 1, 2} {
		hidden := make([]int8, 4)
		hidden[token] = 127
		if got := treeOf(t, m, hidden, 1, 1); !slices.Equal(got, raws(-1, later)) {
			t.Errorf("P15.2: behind %d: %v", token, got)
		}
	}
}

// The i-th width speaks of the i-th matrix, and neither of the Head, nor the other way round.
func TestEachHeadAtItsDepth(t *testing.T) {
	w := telling(4, []int8{0, 0, 0, 9}, []int8{0, 0, 9, 0}, []int8{0, 9, 0, 0}, []int8{9, 0, 0, 0})
	w.Head = api.Mat{Rows: 4, Cols: 2, Data: []int8{0, 0, 0, 0, 127, 0, 0, 0}}
	gives(t, w, []int{1, 1, 1, 1}, raws(-1, 3, 0, 2, 1, 1, 2, 0))
	gives(t, w, []int{2, 1, 1, 1}, raws(-1, 3, -1, 0, 0, 2, 1, 2, 2, 1, 3, 1, 4, 0, 5, 0))
	gives(t, w, []int{1, 2, 1, 1}, raws(-1, 3, 0, 2, 0, 0, 1, 1, 2, 1, 3, 0, 4, 0))
	gives(t, w, []int{1, 1, 2, 1}, raws(-1, 3, 0, 2, 1, 1, 1, 0, 2, 0, 3, 0))
	gives(t, w, []int{1, 1, 1, 2}, raws(-1, 3, 0, 2, 1, 1, 2, 0, 2, 1))
	gives(t, w, []int{2, 2, 1}, raws(-1, 3, -1, 0, 0, 2, 0, 0, 1, 2, 1, 0, 2, 1, 3, 1, 4, 1, 5, 1))
}

// Of a model without Medusa matrices none, whatever the widths.
func TestNoMatrices(t *testing.T) {
	for _, widths := range rightWidths() {
		gives(t, telling(4), widths, nil)
	}
}

// Fewer widths than matrices, as many, and more.
func TestHowManyWidths(t *testing.T) {
	way := raws(-1, 0, 0, 0, 1, 0, 2, 0)
	for many := range 5 {
		for n := range 8 {
			gives(t, level(3, many), slices.Repeat([]int{1}, n), way[:min(many, n)])
			gives(t, level(3, many), append(slices.Repeat([]int{1}, n), 0, 2, 2), way[:min(many, n)])
		}
	}
}

// A width of 0 ends the tree there, whatever is behind it.
func TestWidthsOfNought(t *testing.T) {
	w := level(3, 4)
	two := raws(-1, 0, -1, 1)
	four := raws(-1, 0, -1, 1, 0, 0, 1, 0)
	for _, behind := range [][]int{nil, {0}, {1}, {3, 3}, {0, 1}, {0, 0, 0, 0}, {math.MaxInt}} {
		gives(t, w, append([]int{0}, behind...), nil)
		gives(t, w, append([]int{2, 0}, behind...), two)
		gives(t, w, append([]int{2, 1, 0}, behind...), four)
	}
	gives(t, w, []int{2, 1, 0, 5}, four)
	gives(t, w, []int{1, 1, 1, 0}, raws(-1, 0, 0, 0, 1, 0))
}

// Not more tokens than there are.
func TestWidthsAboveTheVocabulary(t *testing.T) {
	for _, width := range []int{4, 5, 6, 96, 97, 1 << 31, 1 << 32, 1 << 40, 1 << 62, math.MaxInt - 1, math.MaxInt} {
		gives(t, example(), []int{width}, raws(-1, 1, -1, 2, -1, 0, -1, 3))
		gives(t, example(), []int{1, width}, raws(-1, 1, 0, 2, 0, 3, 0, 0, 0, 1))
		gives(t, example(), []int{width, 1}, raws(-1, 1, -1, 2, -1, 0, -1, 3, 0, 2, 1, 2, 2, 2, 3, 2))
		gives(t, example(), []int{width, 0, width}, raws(-1, 1, -1, 2, -1, 0, -1, 3))
	}
	gives(t, example(), []int{3}, raws(-1, 1, -1, 2, -1, 0))
	w := level(64, 3)
	m := newModel(t, w)
	for _, widths := range testaid.Lists(4, 1, 63, 64, 65, math.MaxInt) {
		asWords(t, m, w, oneNought(), widths...)
	}
}

// Logits that are alike: the lower token first, at each depth; and logits below 0.
func TestAlikeLogits(t *testing.T) {
	gives(t, level(3, 2), []int{3, 2}, raws(-1, 0, -1, 1, -1, 2, 0, 0, 0, 1, 1, 0, 1, 1, 2, 0, 2, 1))
	w := telling(4, []int8{7, 9, 7, 9}, []int8{-3, -3, -9, -1})
	gives(t, w, []int{4}, raws(-1, 1, -1, 3, -1, 0, -1, 2))
	gives(t, w, []int{3, 3}, raws(-1, 1, -1, 3, -1, 0, 0, 3, 0, 0, 0, 1, 1, 3, 1, 0, 1, 1, 2, 3, 2, 0, 2, 1))
	gives(t, telling(3, []int8{-127, -127, 127}), []int{2}, raws(-1, 2, -1, 0))
}

// cutAt: of level heads of 64 tokens, these widths give so many nodes, and these are the last two.
func cutAt(t *testing.T, widths []int, nodes int, last ...int) {
	t.Helper()
	w := level(64, 4)
	got := treeOf(t, newModel(t, w), oneNought(), widths...)
	if len(got) != nodes || !slices.Equal(got[len(got)-2:], raws(last...)) {
		t.Errorf("P15.2: Propose(.., %v): %d nodes, the last %v, want %d and %v", widths, len(got), got[len(got)-2:], nodes, raws(last...))
	}
	gives(t, w, widths, proposed(w, oneNought(), widths))
}

// Trees of just MaxRaw nodes, of one less and of one more.
func TestJustMost(t *testing.T) {
	cutAt(t, []int{48, 1}, 96, 46, 0, 47, 0)
	cutAt(t, []int{6, 15}, 96, 5, 13, 5, 14)
	cutAt(t, []int{3, 31}, 96, 2, 29, 2, 30)
	cutAt(t, []int{32, 1, 1}, 96, 62, 0, 63, 0)
	cutAt(t, []int{24, 1, 1, 1}, 96, 70, 0, 71, 0)
	cutAt(t, []int{2, 1, 46}, 96, 3, 44, 3, 45)
	cutAt(t, []int{1, 47, 1}, 95, 46, 0, 47, 0)
	cutAt(t, []int{5, 9, 1}, 95, 48, 0, 49, 0)
	cutAt(t, []int{1, 48, 1}, 96, 46, 0, 47, 0)
	cutAt(t, []int{1, 6, 15}, 96, 6, 12, 6, 13)
	cutAt(t, []int{1, 32, 1, 1}, 96, 62, 0, 63, 0)
	cutAt(t, []int{49, 1}, 96, 45, 0, 46, 0)
}

// Cut off within a depth: among the kids of one node, and between those of two.
func TestCutOff(t *testing.T) {
	cutAt(t, []int{64, 64}, 96, 0, 30, 0, 31)
	cutAt(t, []int{64, 64, 64, 64}, 96, 0, 30, 0, 31)
	cutAt(t, []int{5, 5, 5}, 96, 17, 4, 18, 0)
	cutAt(t, []int{1, 64, 64}, 96, 1, 29, 1, 30)
	cutAt(t, []int{1, 1, 64, 64}, 96, 2, 28, 2, 29)
	cutAt(t, []int{2, 3, 4, 5}, 96, 20, 2, 20, 3)
	cutAt(t, []int{9, 9, 2}, 96, 11, 0, 11, 1)
	cutAt(t, []int{60, 12}, 96, 2, 10, 2, 11)
	cutAt(t, []int{60, 36}, 96, 0, 34, 0, 35)
	cutAt(t, []int{60, 35}, 96, 0, 34, 1, 0)
	// Just behind a depth: what would come next changes nothing.
	cutAt(t, []int{32, 2, 3}, 96, 31, 0, 31, 1)
	cutAt(t, []int{48, 1, 1}, 96, 46, 0, 47, 0)
	cutAt(t, []int{32, 1, 1, 1}, 96, 62, 0, 63, 0)
	cutAt(t, []int{63, 63, 0}, 96, 0, 31, 0, 32)
}

// All lists of small widths, one longer than there may be matrices.
func TestAllShort(t *testing.T) {
	s := testaid.Source(186)
	for many := range 5 {
		w := s.Weights(api.Config{Vocab: 3, Width: 2, Heads: 1, KV: 1, Layers: 1, Hidden: 1, Len: 8, Medusa: many})
		m := newModel(t, w)
		for _, widths := range testaid.Lists(5, 0, 1, 2, 3, 4) {
			asWords(t, m, w, []int8{3, -7}, widths...)
		}
	}
}

func TestDrawn(t *testing.T) {
	s := testaid.Source(187)
	for _, c := range measures() {
		for range 20 {
			w := s.Weights(c)
			m := newModel(t, w)
			for range 20 {
				asWords(t, m, w, s.Narrow(c.Width), someWidths(&s, s.Below(7), c.Vocab)...)
			}
			asWords(t, m, w, make([]int8, c.Width), 3, 2, 1, 4)
			loose := s.Narrow(c.Width)
			loose[s.Below(c.Width)] = -128
			asWords(t, m, w, loose, 3, 2, 1, 4)
			asWords(t, m, w, slices.Repeat([]int8{-128}, c.Width), 4, 3, 2, 1)
		}
	}
}

// A model that was read from its file proposes the same.
func TestLoadedModel(t *testing.T) {
	s := testaid.Source(188)
	for _, c := range measures() {
		w := s.Weights(c)
		b, e := model.Encode(w)
		if e != api.OK {
			t.Fatalf("Encode answered the error %d", e)
		}
		m, e := model.Load(b)
		if e != api.OK {
			t.Fatalf("Load answered the error %d", e)
		}
		asWords(t, m, w, s.Narrow(c.Width), 3, 3, 3, 3)
	}
}
