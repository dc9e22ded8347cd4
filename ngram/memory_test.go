package ngram_test

import (
	"slices"
	"testing"

	"augur/api"
	"augur/testaid"
)

// What is handed in stays, and the room behind it.
func TestArgumentsStay(t *testing.T) {
	s := testaid.Source(157)
	for range 200 {
		most := 1 + s.Below(4)
		x := made(t, most)
		list := testaid.Roomy(someTokens(&s, []int{0, 1, 2}, s.Below(20)), 99)
		same := testaid.Guard(list)
		x.Append(list...)
		x.Append(8, 9)
		x.Propose(9, 9)
		x.Cut(s.Below(20))
		x.Append(list...)
		x.Append(1, 2, 3)
		x.Cut(0)
		x.Append(5, 5, 5)
		if !same() {
			t.Fatalf("P13.5: Append changed what was handed in, or the room behind it")
		}
	}
}

// What was handed in may be written over behind the call: of an empty text, of one that has tokens, ahead of the next Append and Cut.
func TestNothingIsKept(t *testing.T) {
	s := testaid.Source(158)
	for range 200 {
		most := 1 + s.Below(4)
		x := made(t, most)
		var text []int
		for range 4 {
			list := testaid.Roomy(someTokens(&s, []int{0, 1, 2}, s.Below(12)), 99)
			x.Append(list...)
			text = append(text, list...)
			testaid.Overwrite(list, 1)
			asWords(t, x, most, text)
			n := len(text) - s.Below(3)
			x.Cut(n)
			text = text[:max(n, 0)]
			asWords(t, x, most, text)
		}
	}
}

// Answers written into or appended to change nothing: not the index, not one another.
func TestAnswersAreApart(t *testing.T) {
	s := testaid.Source(159)
	mark := api.RawNode{Parent: 77, Token: 78}
	for range 200 {
		most := 1 + s.Below(4)
		text := someTokens(&s, []int{0, 1, 2}, 2+s.Below(20))
		x := made(t, most, text...)
		one, two, three := x.Propose(3, 4), x.Propose(3, 4), x.Propose(9, 9)
		kept, long := slices.Clone(two), slices.Clone(three)
		testaid.Overwrite(one, mark)
		_ = append(one, mark, mark)
		if !slices.Equal(two, kept) || !slices.Equal(three, long) {
			t.Fatal("P13.5: writing over an answer of Propose changed another")
		}
		asWords(t, x, most, text)
		x.Append(1, 1, 1)
		x.Cut(1)
		if !slices.Equal(two, kept) || !slices.Equal(three, long) {
			t.Fatal("P13.5: an answer of Propose changed with the text")
		}
		_ = append(two, mark)
		testaid.Overwrite(three, mark)
		asWords(t, x, most, text[:1])
	}
}

// Two indices know nothing of one another, and questions change nothing.
func TestIndicesAreApart(t *testing.T) {
	s := testaid.Source(160)
	for range 150 {
		most := 1 + s.Below(4)
		other := 1 + s.Below(4)
		x, y := made(t, most), made(t, other)
		var a, b []int
		for range 8 {
			more := someTokens(&s, []int{0, 1, 2}, s.Below(6))
			x.Append(more...)
			a = append(a, more...)
			if s.Below(2) == 0 {
				y.Append(more...)
				b = append(b, more...)
			}
			n := s.Below(len(b) + 2)
			y.Cut(n)
			b = b[:min(n, len(b))]
			asWords(t, x, most, a)
			asWords(t, x, most, a)
			asWords(t, y, other, b)
		}
	}
}
