package ngram_test

import (
	"math"
	"testing"

	"augur/api"
	"augur/ngram"
	"augur/testaid"
)

func TestNew(t *testing.T) {
	for most := 1; most <= 4; most++ {
		asWords(t, made(t, most), most, nil)
	}
	for _, most := range []int{0, 5, -1, -4, 6, 96, 1 << 32, 1<<32 + 1, math.MaxInt, math.MinInt} {
		if x, e := ngram.New(most); x != nil || e != api.ErrArg {
			t.Errorf("P13.1: New(%d) = %v, %d", most, x, e)
		}
	}
}

// raw: a raw tree by pairs of numbers.
func raw(n ...int) []api.RawNode {
	var l []api.RawNode
	for i := 0; i < len(n); i += 2 {
		l = append(l, api.RawNode{Parent: n[i], Token: n[i+1]})
	}
	return l
}

func TestExamples(t *testing.T) {
	x := made(t, 3)
	x.Append(1, 2, 3, 1, 2)
	has(t, x, 5, 2)
	proposes(t, x, 2, 3, raw(-1, 3, 0, 1, 1, 2))
	proposes(t, x, 2, 1, raw(-1, 3))
	x.Append(3, 9, 1, 2, 3)
	has(t, x, 10, 6, 3)
	proposes(t, x, 2, 2, raw(-1, 9, 0, 1, -1, 1, 2, 2))
	proposes(t, x, 1, 9, raw(-1, 9, 0, 1, 1, 2, 2, 3))
	x.Cut(6)
	has(t, x, 6, 3)
	proposes(t, x, 5, 5, raw(-1, 1, 0, 2, 1, 3))
	x.Cut(1)
	has(t, x, 1)
	x.Append(1, 1)
	has(t, x, 3, 2)
	proposes(t, x, 9, 9, raw(-1, 1))
	x = made(t, 1, 1, 1, 1)
	has(t, x, 3, 2, 1)
	proposes(t, x, 9, 9, raw(-1, 1, -1, 1, 1, 1))
	for _, most := range []int{0, 5} {
		if x, e := ngram.New(most); x != nil || e != api.ErrArg {
			t.Errorf("P13.1: New(%d) = %v, %d", most, x, e)
		}
	}
}

// Texts of no token, of one, of two, of tokens all unlike, all alike, and such that the end run lies at the text's beginning or overlaps with the end.
func TestSmallTexts(t *testing.T) {
	for _, text := range [][]int{
		nil, {0}, {5}, {-5}, {0, 0}, {5, 5}, {5, 0}, {0, 5}, {math.MinInt, math.MinInt}, {math.MaxInt, math.MinInt},
		{1, 2, 3, 4, 5}, {0, -1, -2, -3}, {3, 3, 3}, {0, 0, 0, 0}, {0, 0, 0, 0, 0}, {0, 0, 0, 0, 0, 0, 0, 0, 0},
		{1, 2, 1}, {1, 2, 1, 2}, {1, 2, 1, 2, 1}, {1, 2, 1, 2, 1, 2, 1, 2}, {1, 2, 3, 1, 2, 3, 1, 2, 3, 1},
		{1, 2, 2}, {1, 1, 2}, {1, 1, 2, 1, 1}, {2, 1, 1, 1, 3, 1, 1}, {9, 1, 2, 3, 4, 9, 1, 2, 3, 4},
		{5, 0, 5}, {5, 0, 0, 5, 0}, {0, 5, 0, 0, 5}, {0, 0, 5, 0}, {5, 0, 5, 0, 0}, {0, 5, 5, 0},
	} {
		for most := 1; most <= 4; most++ {
			asWords(t, made(t, most, text...), most, text)
		}
	}
	has(t, made(t, 4, 9, 1, 2, 3, 4, 9, 1, 2, 3, 4), 10, 5) // alike are the last 5; 4 count
	has(t, made(t, 4, 1, 2, 3, 4, 5, 9, 2, 3, 4, 5, 0, 1, 2, 3, 4, 5), 16, 10, 5)
	has(t, made(t, 2, 1, 2, 1, 2, 1), 5, 3) // 2 1, which overlaps with none; 1 alone stands ahead of place 1 too
	has(t, made(t, 3, 1, 2, 1, 2, 1), 5, 3)
	has(t, made(t, 4, 0, 0, 0, 0, 0, 0), 6, 5, 4)
}

// all: every text of so many tokens from 0 to below.
func all(length, below int, give func(text []int)) {
	text := make([]int, length)
	for {
		give(text)
		i := 0
		for ; i < length && text[i] == below-1; i++ {
			text[i] = 0
		}
		if i == length {
			return
		}
		text[i]++
	}
}

func TestAllShortTexts(t *testing.T) {
	for most := 1; most <= 4; most++ {
		for length := range 9 {
			all(length, 2, func(text []int) { asWords(t, made(t, most, text...), most, text) })
		}
		for length := range 6 {
			all(length, 3, func(text []int) { asWords(t, made(t, most, text...), most, text) })
		}
	}
}

// Runs that are alike but for one token, in any of its bits, are not alike.
func TestTokensAreAnyNumbers(t *testing.T) {
	for most := 1; most <= 4; most++ {
		for bit := range 64 {
			for at := range most {
				other := []int{3, -4, 5, 0}[:most]
				text := append([]int{77}, other...)
				text = append(text, 78)
				changed := append([]int{}, other...)
				changed[at] ^= 1 << bit
				text = append(text, changed...)
				asWords(t, made(t, most, text...), most, text)
				asWords(t, made(t, most, append(text, other...)...), most, append(text, other...))
			}
		}
	}
}

func TestCut(t *testing.T) {
	text := []int{1, 2, 1, 2, 0, 1, 2, 1, 2, 0, 0, 1}
	for most := 1; most <= 4; most++ {
		for _, n := range []int{math.MinInt, -1, 0, 1, 2, 5, 6, 11, 12, 13, 1 << 32, math.MaxInt} {
			left := text[:min(max(n, 0), len(text))]
			x := made(t, most, text...)
			x.Cut(n)
			asWords(t, x, most, left)
			x.Cut(n)
			asWords(t, x, most, left)
			x.Append()
			asWords(t, x, most, left)
			x.Append(text...)
			asWords(t, x, most, append(append([]int{}, left...), text...))
		}
		x := made(t, most)
		for _, n := range []int{-1, 0, 1, math.MaxInt} {
			x.Cut(n)
			asWords(t, x, most, nil)
		}
	}
}

// Runs across the cut never were: neither those that were cut off nor those of what was cut and what came then.
func TestRunsAcrossTheCut(t *testing.T) {
	x := made(t, 4, 1, 2, 3, 4)
	x.Cut(2)
	x.Append(5, 6, 3, 4)
	asWords(t, x, 4, []int{1, 2, 5, 6, 3, 4}) // 3 4 stood behind 1 2, and was cut
	has(t, x, 6)
	x.Append(1, 2)
	has(t, x, 8, 2)
	proposes(t, x, 9, 1, raw(-1, 5))
	x.Append(3)
	has(t, x, 9, 5)
	x.Cut(8)
	x.Append(5)
	has(t, x, 9, 3)

	x = made(t, 2, 1, 1, 1, 1)
	x.Cut(1)
	x.Append(2, 1, 1)
	has(t, x, 4, 3, 1) // of 1 1 only the end is left
	x.Cut(0)
	x.Append(1, 2)
	has(t, x, 2)
	x.Cut(1)
	x.Append(2)
	has(t, x, 2)
}

// Append of nothing, of a nil list, of one token, of many.
func TestAppend(t *testing.T) {
	text := []int{4, 4, 1, 4, 4, 1, 4, 4}
	for most := 1; most <= 4; most++ {
		x := made(t, most)
		x.Append()
		x.Append(nil...)
		x.Append([]int{}...)
		asWords(t, x, most, nil)
		for i, token := range text {
			x.Append(token)
			x.Append()
			asWords(t, x, most, text[:i+1])
		}
		for i := range text {
			y := made(t, most, text[:i]...)
			y.Append(text[i:]...)
			asWords(t, y, most, text)
		}
	}
}

// Scripts of Append and Cut, of all kinds of tokens: behind each the words hold.
func TestScripts(t *testing.T) {
	s := testaid.Source(150)
	for range 30 {
		for _, kind := range kinds() {
			most := 1 + s.Below(4)
			x := made(t, most)
			var text []int
			for range 12 {
				switch s.Below(4) {
				case 0:
					n := s.Below(len(text)+4) - 2
					x.Cut(n)
					text = text[:min(max(n, 0), len(text))]
				case 1:
					x.Append(text...) // what was there comes again
					text = append(text, text...)[:2*len(text)]
					if len(text) > 60 {
						x.Cut(9)
						text = text[:9]
					}
				default:
					more := someTokens(&s, kind, s.Below(7))
					x.Append(more...)
					text = append(text, more...)
				}
				asWords(t, x, most, text)
			}
		}
	}
}

func TestNilIndex(t *testing.T) {
	var none *ngram.Index
	none.Append()
	none.Append(1, 1, 1)
	for _, n := range []int{math.MinInt, -1, 0, 1, math.MaxInt} {
		none.Cut(n)
	}
	if none.Len() != 0 {
		t.Errorf("P13.2: Len of a nil index: %d", none.Len())
	}
	for range 2 {
		for q := range none.Places() {
			t.Errorf("P13.3: of a nil index the place %d", q)
		}
	}
	for _, ways := range measures(3) {
		for _, deep := range measures(3) {
			if got := none.Propose(ways, deep); len(got) != 0 {
				t.Errorf("R3: of a nil index Propose(%d, %d) = %v", ways, deep, got)
			}
		}
	}
}
