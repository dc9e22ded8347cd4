package medusa_test

import (
	"math"
	"slices"
	"testing"

	"augur/api"
	"augur/testaid"
)

// wrongWidths: lists with a width below 0 at the first place, at the last, between, at places that do not count, alone and several.
func wrongWidths() [][]int {
	return [][]int{
		{-1}, {-1, 1}, {1, -1}, {1, -1, 1}, {1, 1, -1}, {-1, -1}, {1, 1, 1, -1}, {1, 1, 1, 1, -1}, {1, 1, 1, 1, 1, 1, -1, 1},
		{0, -1}, {-1, 0}, {0, 0, -1}, {1, 0, 0, 0, -5}, {64, 64, -1}, {64, 64, 64, 64, -1}, {math.MaxInt, -2},
		{math.MinInt}, {math.MinInt, 1}, {1, math.MinInt}, {1, 1, 1, 1, math.MinInt}, {math.MaxInt, math.MinInt},
		{math.MinInt + 1}, {-1 << 32}, {1, -1 << 40}, {-64}, {-96}, {-97}, {1, 1, -128},
	}
}

// rightWidths: lists in which none is below 0.
func rightWidths() [][]int {
	return [][]int{nil, {}, {0}, {1}, {2, 1}, {0, 0}, {1, 0, 1}, {64, 64}, {1, 1, 1, 1, 1}, {math.MaxInt}, {1, math.MaxInt, 1}}
}

// Without a model neither the vector nor the widths are told.
func TestNoModel(t *testing.T) {
	for _, hidden := range [][]int8{nil, {}, {1}, {1, 0}, {-128, 127, 0, 5}, make([]int8, 32), make([]int8, 33), make([]int8, 1<<20)} {
		for _, widths := range append(rightWidths(), wrongWidths()...) {
			refused(t, nil, hidden, api.ErrArg, widths...)
		}
	}
}

// A vector that does not fit is told ahead of the widths, also where there is no Medusa matrix or no width.
func TestVectorsThatDoNotFit(t *testing.T) {
	s := testaid.Source(181)
	for _, c := range measures() {
		w := s.Weights(c)
		m := newModel(t, w)
		for _, n := range []int{0, 1, c.Width - 1, c.Width + 1, 2 * c.Width, c.Vocab, 1 << 20} {
			if n == c.Width {
				continue
			}
			for _, widths := range append(rightWidths(), wrongWidths()...) {
				refused(t, m, make([]int8, n), api.ErrShape, widths...)
			}
		}
		refused(t, m, nil, api.ErrShape)
		refused(t, m, nil, api.ErrShape, -1)
		refused(t, m, []int8{}, api.ErrShape, 1)
		asWords(t, m, w, s.Narrow(c.Width), 2, 2)
	}
}

// All widths are looked at, also those that do not count: of a model with fewer Medusa matrices, behind a 0, behind a tree that is full.
func TestWidthsBelowNought(t *testing.T) {
	s := testaid.Source(182)
	for _, c := range measures() {
		w := s.Weights(c)
		m := newModel(t, w)
		for _, widths := range wrongWidths() {
			refused(t, m, s.Narrow(c.Width), api.ErrArg, widths...)
		}
		for _, widths := range rightWidths() {
			asWords(t, m, w, s.Narrow(c.Width), widths...)
		}
	}
}

// One width below 0 at each place of a list, far behind the last that counts too.
func TestWidthBelowNoughtAtEachPlace(t *testing.T) {
	s := testaid.Source(183)
	for _, c := range measures() {
		w := s.Weights(c)
		m := newModel(t, w)
		hidden := s.Narrow(c.Width)
		for n := 1; n < 9; n++ {
			for at := range n {
				for _, below := range []int{-1, -2, math.MinInt} {
					widths := someWidths(&s, n, c.Vocab)
					asWords(t, m, w, hidden, widths...)
					widths[at] = below
					refused(t, m, hidden, api.ErrArg, widths...)
				}
			}
		}
	}
}

// Any number of widths may be handed in.
func TestVeryManyWidths(t *testing.T) {
	s := testaid.Source(184)
	for _, c := range measures() {
		w := s.Weights(c)
		m := newModel(t, w)
		hidden := s.Narrow(c.Width)
		widths := slices.Repeat([]int{2}, 1<<20)
		asWords(t, m, w, hidden, widths...)
		widths[len(widths)-1] = -1
		refused(t, m, hidden, api.ErrArg, widths...)
		refused(t, m, hidden[1:], api.ErrShape, widths...)
		refused(t, nil, hidden, api.ErrArg, widths...)
	}
}

func TestErrorExamples(t *testing.T) {
	m := newModel(t, example())
	refused(t, m, oneNought(), api.ErrArg, 1, -1)
	refused(t, m, oneNought(), api.ErrArg, 1, 1, -1)
}
