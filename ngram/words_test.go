package ngram_test

import (
	"math"
	"slices"
	"testing"

	"augur/api"
	"augur/ngram"
	"augur/testaid"
)

// The chapter's words, said a second time: over the plain list of tokens, looking everywhere.

// endRun: how many tokens the end run of a text has, and its places, the latest first.
func endRun(text []int, most int) (int, []int) {
	n := len(text)
	for l := min(most, n); l >= 1; l-- {
		var places []int
		for q := n - 1; q >= l; q-- {
			if slices.Equal(text[q-l:q], text[n-l:]) {
				places = append(places, q)
			}
		}
		if len(places) > 0 {
			return l, places
		}
	}
	return 0, nil
}

// proposed: what Propose is to answer.
func proposed(text []int, most, ways, deep int) []api.RawNode {
	_, places := endRun(text, most)
	var tree []api.RawNode
	for i, q := range places {
		if i >= ways {
			break
		}
		for d := 0; q+d < len(text) && d < deep; d++ {
			parent := len(tree) - 1
			if d == 0 {
				parent = -1
			}
			tree = append(tree, api.RawNode{Parent: parent, Token: text[q+d]})
		}
	}
	return tree[:min(len(tree), 96)]
}

// made: an index over runs of up to most tokens, of this text.
func made(t *testing.T, most int, text ...int) *ngram.Index {
	t.Helper()
	x, e := ngram.New(most)
	if x == nil || e != api.OK {
		t.Fatalf("P13.1: New(%d) = %v, %d", most, x, e)
	}
	x.Append(text...)
	return x
}

// measures: the ways and the depths, to be asked for of so many: wrong, fewer, just so many, more.
func measures(n int) []int {
	return []int{math.MinInt, -1, 0, 1, 2, n - 1, n, n + 1, math.MaxInt}
}

// proposes: Propose answers that tree.
func proposes(t *testing.T, x *ngram.Index, ways, deep int, want []api.RawNode) {
	t.Helper()
	if got := x.Propose(ways, deep); !slices.Equal(got, want) {
		t.Errorf("P13.4: Propose(%d, %d) = %v, want %v", ways, deep, got, want)
	}
}

// has: Len and Places tell so.
func has(t *testing.T, x *ngram.Index, length int, places ...int) {
	t.Helper()
	if x.Len() != length {
		t.Errorf("P13.2: Len() = %d, want %d", x.Len(), length)
	}
	if got := slices.Collect(x.Places()); !slices.Equal(got, places) {
		t.Errorf("P13.3: the places are %v, want %v", got, places)
	}
}

// asWords: all that the index tells is what the words say of that text.
func asWords(t *testing.T, x *ngram.Index, most int, text []int) {
	t.Helper()
	_, places := endRun(text, most)
	has(t, x, len(text), places...)
	for _, ways := range measures(len(places)) {
		for _, deep := range measures(3) {
			proposes(t, x, ways, deep, proposed(text, most, ways, deep))
		}
	}
	if len(places) > 0 {
		first := places[0] // up to the end of the text, and around that
		for _, deep := range measures(len(text) - first) {
			proposes(t, x, 1, deep, proposed(text, most, 1, deep))
		}
	}
	if t.Failed() {
		t.Fatalf("this was over runs of up to %d tokens, the text %v", most, text)
	}
}

// kinds: the tokens that drawn texts are made of: few and many, zeros, numbers that are alike but for a few of their bits, the greatest and the least.
func kinds() [][]int {
	many := make([]int, 40)
	for i := range many {
		many[i] = i - 5
	}
	return [][]int{
		{0}, {7}, {0, 1}, {-1, 0}, {1, 2, 3}, {0, 1, 2, 3, 4}, many,
		{math.MinInt, math.MaxInt}, {math.MinInt, -1, 0, 1, math.MaxInt},
		{5, 5 + 1<<8, 5 + 1<<16, 5 + 1<<32, 5 - 1<<32, 5 + 1<<62}, {0, 1 << 32, -1 << 32, 1 << 31},
	}
}

// someTokens: so many of that kind.
func someTokens(s *testaid.Source, kind []int, n int) []int {
	out := make([]int, n)
	for i := range out {
		out[i] = kind[s.Below(len(kind))]
	}
	return out
}
