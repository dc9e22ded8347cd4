package tree_test

import (
	"math"
	"slices"
	"testing"

	"augur/api"
	"augur/testaid"
	"augur/tree"
)

func TestCleanExamples(t *testing.T) {
	cleans(t, 7, nil, 10, testaid.Nodes(-1, 7, 0))
	cleans(t, 7, []api.RawNode{}, 10, testaid.Nodes(-1, 7, 0))
	cleans(t, 7, raws(-1, 3, 0, 4, -1, 5, 1, 6), 10, second())
	cleans(t, 7, raws(-1, 3, -1, 3, 0, 4, 1, 4, 1, 5), 10, testaid.Nodes(-1, 7, 0, 0, 3, 1, 1, 4, 2, 1, 5, 2))
	cleans(t, 7, raws(1, 3, -1, 0, -1, 10, 1, 4, -2, 4, -1, 9), 10, testaid.Nodes(-1, 7, 0, 0, 9, 1))
}

func TestCleanBound(t *testing.T) {
	for _, n := range []int{97, 98, 1000} {
		for _, raw := range [][]api.RawNode{make([]api.RawNode, n), slices.Repeat(raws(-1, 1), n), slices.Repeat(raws(-2, -2), n)} {
			for _, vocab := range []int{math.MinInt, 0, 10} {
				if got, e := tree.Clean(7, raw, vocab); e != api.ErrTree || len(got) != 0 {
					t.Errorf("P14.1: Clean of %d raw nodes = %v, %d", n, got, e)
				}
			}
		}
	}
	cleans(t, 7, slices.Repeat(raws(-2, 1), 96), 10, testaid.Nodes(-1, 7, 0))
	cleans(t, 7, slices.Repeat(raws(-1, 1), 96), 10, testaid.Nodes(-1, 7, 0, 0, 1, 1))
	last := append(slices.Repeat(raws(-1, 1), 95), api.RawNode{Parent: 94, Token: 2})
	cleans(t, 7, last, 10, testaid.Nodes(-1, 7, 0, 0, 1, 1, 1, 2, 2))
}

// The root's token is any number, in the vocabulary or not.
func TestCleanRoot(t *testing.T) {
	for _, root := range []int{math.MinInt, -1, 0, 1, 9, 10, 11, math.MaxInt} {
		for _, vocab := range []int{math.MinInt, -1, 0, 1, 10} {
			cleans(t, root, nil, vocab, testaid.Nodes(-1, root, 0))
		}
		cleans(t, root, raws(-1, 3, 0, 4), 10, testaid.Nodes(-1, root, 0, 0, 3, 1, 1, 4, 2))
	}
	cleans(t, 3, raws(-1, 3, 0, 3), 10, testaid.Nodes(-1, 3, 0, 0, 3, 1, 1, 3, 2)) // the token of the parent may come again
}

func TestCleanTokens(t *testing.T) {
	tokens := []int{math.MinInt, math.MinInt + 1, -10, -1, 0, 1, 2, 8, 9, 10, 11, 1 << 32, 1<<32 + 5, math.MaxInt - 1, math.MaxInt}
	for _, vocab := range []int{math.MinInt, math.MinInt + 1, -10, -1, 0, 1, 2, 3, 10, 64, 65, 1 << 40, math.MaxInt - 1, math.MaxInt} {
		for _, token := range tokens {
			want, deeper := testaid.Nodes(-1, 7, 0), testaid.Nodes(-1, 7, 0)
			if token > 0 && token < vocab {
				want = testaid.Nodes(-1, 7, 0, 0, token, 1)
				deeper = testaid.Nodes(-1, 7, 0, 0, token, 1, 1, token, 2)
			}
			cleans(t, 7, raws(-1, token), vocab, want)
			cleans(t, 7, raws(-1, token, 0, token), vocab, deeper)
		}
	}
	cleans(t, 7, raws(-1, 1), 1, testaid.Nodes(-1, 7, 0))
	cleans(t, 7, raws(-1, 1), 2, testaid.Nodes(-1, 7, 0, 0, 1, 1))
	cleans(t, 7, raws(-1, 0), math.MaxInt, testaid.Nodes(-1, 7, 0))
	cleans(t, 7, raws(-1, math.MaxInt-1, -1, math.MaxInt), math.MaxInt, testaid.Nodes(-1, 7, 0, 0, math.MaxInt-1, 1))
	// Tokens that are alike but for a few bits are unlike.
	cleans(t, 7, raws(-1, 5, -1, 5+1<<8, -1, 5+1<<16, -1, 5+1<<32, -1, 5), math.MaxInt, testaid.Nodes(-1, 7, 0, 0, 5, 1, 0, 5+1<<8, 1, 0, 5+1<<16, 1, 0, 5+1<<32, 1))
}

func TestCleanParents(t *testing.T) {
	alone := testaid.Nodes(-1, 7, 0, 0, 1, 1)
	for _, parent := range []int{math.MinInt, math.MinInt + 1, -97, -3, -2, 1, 2, 3, 96, 97, 1 << 32, math.MaxInt - 1, math.MaxInt} {
		cleans(t, 7, raws(-1, 1, parent, 2, -1, 1), 10, alone)
		cleans(t, 7, raws(-1, 1, parent, 2, 1, 3, 2, 4), 10, alone) // whose parent is not good, and so on
		cleans(t, 7, raws(-1, 1, parent, 1, 1, 3, 0, 1), 10, testaid.Nodes(-1, 7, 0, 0, 1, 1, 1, 1, 2))
	}
	cleans(t, 7, raws(0, 1), 10, testaid.Nodes(-1, 7, 0))                 // its own place
	cleans(t, 7, raws(1, 1, -1, 2), 10, testaid.Nodes(-1, 7, 0, 0, 2, 1)) // a good one, but behind it
	cleans(t, 7, raws(1, 1, 0, 2), 10, testaid.Nodes(-1, 7, 0))           // each the other's
	cleans(t, 7, raws(-1, 0, 0, 2, 1, 3), 10, testaid.Nodes(-1, 7, 0))    // the parent's token is End
	cleans(t, 7, raws(-1, 1, 0, 10, 1, 3, 0, 3), 10, testaid.Nodes(-1, 7, 0, 0, 1, 1, 1, 3, 2))
	cleans(t, 7, raws(-1, 1, -1, 2, 0, 3, 1, 3, 3, 4, 2, 5), 10, testaid.Nodes(-1, 7, 0, 0, 1, 1, 0, 2, 1, 1, 3, 2, 2, 3, 2, 4, 4, 3, 3, 5, 3))
}

// Several good nodes of one way are one node: the children of all of them are its children.
func TestCleanAlike(t *testing.T) {
	cleans(t, 7, slices.Repeat(raws(-1, 4), 5), 10, testaid.Nodes(-1, 7, 0, 0, 4, 1))
	cleans(t, 7, raws(-1, 1, -1, 1, -1, 1, 2, 2, 0, 3, 1, 4, 1, 2), 10, testaid.Nodes(-1, 7, 0, 0, 1, 1, 1, 2, 2, 1, 3, 2, 1, 4, 2))
	// Two chains of one way, and a child of each end: the parents are unlike raw nodes all the way down.
	cleans(t, 7, raws(-1, 1, 0, 2, 1, 3, -1, 1, 3, 2, 4, 3, 2, 5, 5, 5, 5, 6), 10, testaid.Nodes(-1, 7, 0, 0, 1, 1, 1, 2, 2, 2, 3, 3, 3, 5, 4, 3, 6, 4))
	// One token behind unlike parents is unlike ways; so are unlike orders of the same tokens.
	cleans(t, 7, raws(-1, 1, -1, 2, 0, 2, 1, 1), 10, testaid.Nodes(-1, 7, 0, 0, 1, 1, 0, 2, 1, 1, 2, 2, 2, 1, 2))
	cleans(t, 7, raws(-1, 1, 0, 1, 1, 1, -1, 1), 10, testaid.Nodes(-1, 7, 0, 0, 1, 1, 1, 1, 2, 2, 1, 3))
}

// By depth; within one by the first good node of the way, neither by the parents nor by the tokens.
func TestCleanOrder(t *testing.T) {
	cleans(t, 7, raws(-1, 5, -1, 4, -1, 3, 2, 9, 0, 8, 1, 7), 10, testaid.Nodes(-1, 7, 0, 0, 5, 1, 0, 4, 1, 0, 3, 1, 3, 9, 2, 1, 8, 2, 2, 7, 2))
	cleans(t, 7, raws(-1, 5, 0, 1, 1, 2, 2, 3, -1, 4, 4, 1), 10, testaid.Nodes(-1, 7, 0, 0, 5, 1, 0, 4, 1, 1, 1, 2, 2, 1, 2, 3, 2, 3, 5, 3, 4))
	// The first node of the way counts, if it is good; one that is not counts for nothing.
	cleans(t, 7, raws(-2, 1, -1, 2, -1, 1), 10, testaid.Nodes(-1, 7, 0, 0, 2, 1, 0, 1, 1))
	cleans(t, 7, raws(-1, 1, -1, 2, -1, 1), 10, testaid.Nodes(-1, 7, 0, 0, 1, 1, 0, 2, 1))
	// At the second depth the child of the later parent comes first, though the earlier parent's stands twice.
	cleans(t, 7, raws(-1, 1, -1, 2, 1, 3, 0, 4, 0, 4, -1, 1, 5, 5), 10, testaid.Nodes(-1, 7, 0, 0, 1, 1, 0, 2, 1, 2, 3, 2, 1, 4, 2, 1, 5, 2))
}

func TestCleanMost(t *testing.T) {
	var wide, deep []api.RawNode
	for i := range 96 {
		wide = append(wide, api.RawNode{Parent: -1, Token: 96 - i})
		deep = append(deep, api.RawNode{Parent: i - 1, Token: 1 + i})
	}
	for _, n := range []int{1, 30, 31, 32, 33, 95, 96} {
		across, down := testaid.Nodes(-1, 7, 0), testaid.Nodes(-1, 7, 0)
		for i := range min(n, 31) {
			across = append(across, api.Node{Parent: 0, Token: 96 - i, Depth: 1})
			down = append(down, api.Node{Parent: i, Token: 1 + i, Depth: 1 + i})
		}
		cleans(t, 7, wide[:n], 97, across)
		cleans(t, 7, deep[:n], 97, down)
	}
	// The shallow ones that stand last push the deep ones out.
	raw := append(slices.Clone(deep[:40]), wide[:30]...)
	want := testaid.Nodes(-1, 7, 0, 0, 1, 1)
	for i := range 30 {
		want = append(want, api.Node{Parent: 0, Token: 96 - i, Depth: 1})
	}
	cleans(t, 7, raw, 97, want)
	cleans(t, 7, raw[:len(raw)-1], 97, append(want[:31], api.Node{Parent: 1, Token: 2, Depth: 2}))
	// Alike ones do not count twice.
	cleans(t, 7, slices.Concat(wide[:31], wide[:31], wide[:31]), 97, cleaned(7, wide[:31], 97))
}

// All raw trees of up to three nodes, of few parents and tokens.
func TestCleanAllShort(t *testing.T) {
	var every []api.RawNode
	for parent := -2; parent <= 3; parent++ {
		for token := 0; token <= 3; token++ {
			every = append(every, api.RawNode{Parent: parent, Token: token})
		}
	}
	for _, a := range every {
		for _, b := range every {
			for _, c := range every {
				raw := []api.RawNode{a, b, c}
				cleans(t, 5, raw, 3, cleaned(5, raw, 3))
			}
		}
	}
}

func TestCleanDrawn(t *testing.T) {
	s := testaid.Source(161)
	full, alike := 0, 0
	for range 3000 {
		vocab := s.Below(9)
		raw := someRaw(&s, s.Below(97), vocab)
		root := s.Below(20) - 5
		want := cleaned(root, raw, vocab)
		cleans(t, root, raw, vocab, want)
		if t.Failed() {
			t.FailNow()
		}
		if len(want) == 32 {
			full++
		} else if len(want) > 5 {
			alike++
		}
	}
	if full < 300 || alike < 300 {
		t.Errorf("only %d full trees and %d others", full, alike)
	}
}
