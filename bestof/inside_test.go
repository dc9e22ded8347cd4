package bestof

import (
	"cmp"
	"slices"
	"testing"

	"augur/api"
)

// No answer of a batch is the beginning of another one, and alike ones can't be told apart: so these tests look inside.

// inOrder: answers as they come one behind the other.
func inOrder() answers {
	return answers{
		{Tokens: []int{3, 3}, Gap: -5},
		{Tokens: []int{1}},
		{Tokens: []int{1, 0}, Over: true},
		{Tokens: []int{1, 2}},
		{Tokens: []int{1, 2}},
		{Tokens: []int{1, 2, 3}},
		{Tokens: []int{1, 3}},
		{Tokens: []int{2}},
		{Tokens: []int{0}, Gap: 1, Over: true},
		{Tokens: []int{0, 0, 0}, Gap: 1 << 62},
	}
}

// The lesser gap, then the lower token or the shorter one, then the lower number.
func TestCompare(t *testing.T) {
	list := inOrder()
	for i := range list {
		for k := range list {
			if is, want := list.compare(i, k), cmp.Compare(i, k); is != want {
				t.Errorf("the order of answers: %v and %v: %d, want %d", list[i], list[k], is, want)
			}
		}
	}
}

// However the numbers lie, the order is the same.
func TestOrdered(t *testing.T) {
	want := inOrder()
	for turn := range want {
		for _, mixed := range []answers{slices.Concat(want[turn:], want[:turn]), slices.Concat(want[:turn], want[turn:])} {
			slices.Reverse(mixed)
			if got := mixed.ordered(); !slices.EqualFunc(got, want, func(a, b api.Beam) bool {
				return slices.Equal(a.Tokens, b.Tokens) && a.Gap == b.Gap && a.Over == b.Over
			}) {
				t.Errorf("the order of answers: %v", got)
			}
		}
	}
	if got := answers(nil).ordered(); len(got) != 0 {
		t.Errorf("of none: %v", got)
	}
}
