package tree_test

import (
	"math"
	"slices"
	"testing"

	"augur/api"
	"augur/testaid"
	"augur/tree"
)

// joins: Join answers that list.
func joins(t *testing.T, want []api.RawNode, lists ...[]api.RawNode) {
	t.Helper()
	if got := tree.Join(lists...); !slices.Equal(got, want) {
		t.Errorf("P14.2: Join(%v) = %v, want %v", lists, got, want)
	}
}

func TestJoin(t *testing.T) {
	joins(t, raws(-1, 3, 0, 4, -1, 5, 2, 6, -2, 1), raws(-1, 3, 0, 4), raws(-1, 5, 0, 6, -2, 1))
	joins(t, nil)
	joins(t, nil, nil)
	joins(t, nil, nil, []api.RawNode{}, nil)
	joins(t, raws(-1, 3, 0, 4, 7, 0), raws(-1, 3, 0, 4, 7, 0))
	joins(t, raws(0, 1), nil, raws(0, 1))
	joins(t, raws(0, 1, 1, 1), raws(0, 1), nil, raws(0, 1), nil)
	joins(t, raws(-1, 3, 0, 4, -1, 3, 2, 4), raws(-1, 3, 0, 4), raws(-1, 3, 0, 4))
	joins(t, raws(0, 1, 1, 2, 2, 3, 3, 4, 5, 5), raws(0, 1), raws(0, 2), raws(0, 3), raws(0, 4, 2, 5))
	// Tokens are any, and stay.
	joins(t, raws(-1, 0, -1, -5, 1, math.MinInt, -1, math.MaxInt), raws(-1, 0), raws(-1, -5, 0, math.MinInt, -1, math.MaxInt))
}

func TestJoinParents(t *testing.T) {
	ahead := raws(-1, 1, -1, 2, -1, 3)
	for _, c := range [][2]int{
		{math.MinInt, math.MinInt}, {math.MinInt + 1, math.MinInt + 1}, {-4, -4}, {-3, -3}, {-2, -2}, {-1, -1},
		{0, 3}, {1, 4}, {2, 5}, {1 << 40, 1<<40 + 3}, {math.MaxInt - 4, math.MaxInt - 1}, {math.MaxInt - 3, math.MaxInt},
		{math.MaxInt - 2, math.MinInt}, {math.MaxInt - 1, math.MinInt + 1}, {math.MaxInt, math.MinInt + 2}, // the sum wraps round
	} {
		joins(t, append(slices.Clone(ahead), api.RawNode{Parent: c[1], Token: 9}), ahead, raws(c[0], 9))
		joins(t, append(raws(c[0], 9), ahead...), raws(c[0], 9), ahead) // nothing ahead: all stays
	}
}

// Join has no bound of its own.
func TestJoinMany(t *testing.T) {
	var lists [][]api.RawNode
	var want []api.RawNode
	for i := range 500 {
		lists = append(lists, raws(-1, i, 0, i+1, -3, 7))
		want = append(want, raws(-1, i, 3*i, i+1, -3, 7)...)
	}
	joins(t, want, lists...)
	long := slices.Repeat(raws(0, 5), 5000)
	got := tree.Join(long, long)
	if len(got) != 10000 || got[4999].Parent != 0 || got[5000].Parent != 5000 || got[9999] != (api.RawNode{Parent: 5000, Token: 5}) {
		t.Error("P14.2: of two long lists")
	}
}

// A node that was good is good, and its way is the same; one that was not is none.
func TestJoinKeepsWays(t *testing.T) {
	s := testaid.Source(162)
	for range 1000 {
		vocab := 2 + s.Below(6)
		var lists [][]api.RawNode
		for range s.Below(6) {
			lists = append(lists, someRaw(&s, s.Below(20), vocab))
		}
		all, at := tree.Join(lists...), 0
		for _, list := range lists {
			for place := range list {
				is := good(list, place, vocab)
				if good(all, at, vocab) != is || is && !slices.Equal(tokensTo(all, at), tokensTo(list, place)) || all[at].Token != list[place].Token {
					t.Fatalf("P14.2: node %d of %v, vocabulary %d, is node %d of %v", place, list, vocab, at, all)
				}
				at++
			}
		}
		if at != len(all) {
			t.Fatalf("P14.2: %d nodes became %d", at, len(all))
		}
	}
}
