package prefix_test

import (
	"math"
	"slices"
	"testing"

	"augur/api"
	"augur/pool"
	"augur/prefix"
)

// halfKnown: of 8 blocks of 2 slots 0 to 5 are in use, 6 and 7 free; known are (1 1) with block 0, (1 1 2 2) with 1, (9 9) with 2.
func halfKnown(t *testing.T) (*pool.Pool, *prefix.Cache) {
	t.Helper()
	p, c := made(t, 8, 2)
	takes(t, p, 0, 1, 2, 3, 4, 5)
	keeps(t, c, []int{1, 1, 2, 2}, 0, 1)
	keeps(t, c, []int{9, 9}, 2)
	counted(t, "P7.3", p, 2, 2, 2, 1, 1, 1, 0, 0)
	return p, c
}

// The blocks that may not be, for beginnings that are known and for those that are not.
func TestKeepRefuses(t *testing.T) {
	text := []int{1, 1, 2, 2, 3, 3, 4, 4}
	for _, wrong := range []int{6, 7, 8, 9, -1, math.MinInt, math.MaxInt} {
		for at, right := range []int{0, 1, 3, 4} {
			p, c := halfKnown(t)
			blocks := []int{0, 1, 3, 4}
			blocks[at] = wrong
			refuses(t, p, c, text, blocks...)
			blocks[at] = right
			keeps(t, c, text, blocks...)
			finds(t, c, text, 0, 1, 3, 4)
		}
	}
	for _, blocks := range [][]int{
		nil, {0}, {0, 1}, {0, 1, 3}, // too few
		{0, 1, 3, 3}, {3, 3, 3, 3}, {0, 1, 5, 5}, // one twice among the new ones
		{0, 1, 0, 3}, {0, 1, 1, 3}, {0, 1, 2, 3}, {0, 1, 3, 0}, {0, 1, 3, 1}, {0, 1, 3, 2}, // one that is a known beginning's
		{5, 4, 2, 3}, {5, 4, 3, 2}, {0, 0, 0, 0},
		{3, 6, 4, 5}, {-1, 6, 4, 5}, // not in use, where the beginning is known
	} {
		p, c := halfKnown(t)
		refuses(t, p, c, text, blocks...)
		finds(t, c, text, 0, 1)
	}
}

// What a known beginning is handed is asked for being in use alone: twice, another's, one that a new one gets: all are right.
func TestKnownStaysWithItsBlock(t *testing.T) {
	text := []int{1, 1, 2, 2, 3, 3, 4, 4, 5}
	for _, blocks := range [][]int{
		{0, 1, 3, 4}, {1, 0, 3, 4}, {0, 0, 3, 4}, {2, 2, 3, 4}, {5, 5, 3, 4}, {3, 4, 3, 4}, {4, 3, 3, 4}, {3, 3, 3, 4},
		{0, 1, 3, 4, 3}, {0, 1, 3, 4, 6}, {0, 1, 3, 4, -1, math.MaxInt, 0}, // behind the whole blocks nothing is looked at
	} {
		p, c := halfKnown(t)
		keeps(t, c, text, blocks...)
		known(t, "behind Keep", c, 5)
		counted(t, "P7.3", p, 2, 2, 2, 2, 2, 1, 0, 0)
		finds(t, c, text, 0, 1, 3, 4)
		finds(t, c, []int{9, 9}, 2)
	}
	p, c := halfKnown(t)
	for _, blocks := range [][]int{{5, 4}, {2, 2}, {1, 0}, {3, 3, 7, -5}} {
		keeps(t, c, text[:5], blocks...)
		finds(t, c, text, 0, 1)
		counted(t, "P7.3: all known", p, 2, 2, 2, 1, 1, 1, 0, 0)
		known(t, "all known", c, 3)
	}
}

// A block of a known beginning that is shorter, longer, or of another text altogether is no other's; once that one went it may be.
func TestBlockOfOneThatWent(t *testing.T) {
	p, c := made(t, 4, 1)
	takes(t, p, 0, 1, 2, 3)
	keeps(t, c, []int{1, 2}, 0, 1)
	for _, tokens := range [][]int{{2}, {2, 2}, {1, 3}, {1, 2, 3}} {
		for _, block := range []int{0, 1} {
			blocks := []int{2, 3, block}[3-len(tokens):]
			refuses(t, p, c, tokens, blocks...)
		}
	}
	drops(t, p, 1)
	goes(t, p, c, 1)
	finds(t, c, []int{1, 2}, 0)
	refuses(t, p, c, []int{2}, 1)
	takes(t, p, 1)
	keeps(t, c, []int{2}, 1)
	finds(t, c, []int{2}, 1)
	finds(t, c, []int{1, 2}, 0)
	keeps(t, c, []int{1, 2}, 0, 3)
	finds(t, c, []int{1, 2}, 0, 3)
	counted(t, "P7.3", p, 2, 2, 1, 2)
}

// Keep of fewer tokens than a block needs no block, whatever else it is handed.
func TestKeepOfNothing(t *testing.T) {
	for _, size := range []int{1, 2, api.MaxBlock} {
		p, c := made(t, 2, size)
		takes(t, p, 0)
		for length := range size {
			for _, blocks := range [][]int{nil, {}, {0}, {1}, {-1, -1}, {math.MaxInt}} {
				keeps(t, c, make([]int, length), blocks...)
			}
		}
		known(t, "of nothing", c, 0)
		counted(t, "P7.3", p, 1, 0)
	}
}

// A refused Keep makes nothing known, not even its first right ones, and uses nothing.
func TestRefusedUsesNothing(t *testing.T) {
	p, c := made(t, 6, 1)
	takes(t, p, 0, 1, 2, 3)
	keeps(t, c, []int{1}, 0)
	keeps(t, c, []int{2}, 1)
	keeps(t, c, []int{3}, 2)
	refuses(t, p, c, []int{1, 5}, 0)
	refuses(t, p, c, []int{1, 5}, 0, 4)
	refuses(t, p, c, []int{1}, 5)
	refuses(t, p, c, []int{1, 5, 6}, 0, 3, 3)
	refuses(t, p, c, []int{1, 5, 6}, 0, 3, 1)
	refuses(t, p, c, []int{2, 5, 6}, 0, 3, -1)
	finds(t, c, []int{5})
	drops(t, p, 0, 1, 2)
	goes(t, p, c, 0, 1, 2)
	known(t, "behind all", c, 0)
	counted(t, "P7.4", p, 0, 0, 0, 1, 0, 0)
}

// Calls that answer or keep no block use nothing either; neither does Len, nor a Shrink that lets nothing go.
func TestWhatUsesNothing(t *testing.T) {
	p, c := made(t, 3, 2)
	takes(t, p, 0, 1, 2)
	keeps(t, c, []int{1, 1}, 0)
	keeps(t, c, []int{2, 2}, 1)
	keeps(t, c, []int{3, 3}, 2)
	finds(t, c, []int{1})
	finds(t, c, []int{1, 2, 1, 1})
	finds(t, c, nil)
	keeps(t, c, []int{1}, 0, 1)
	keeps(t, c, nil, 0)
	known(t, "of three", c, 3)
	shrinks(t, c, 3, 0)
	drops(t, p, 0, 1, 2)
	shrinks(t, c, 0, 0)
	goes(t, p, c, 0, 1, 2)
}

// Find holds nothing, and finds again and again what was kept, as long as nobody calls Shrink.
func TestFindHoldsNothing(t *testing.T) {
	p, c := made(t, 4, 1)
	takes(t, p, 0, 1, 2)
	keeps(t, c, []int{1, 2, 3}, 2, 0, 1)
	for range 100 {
		finds(t, c, []int{1, 2, 3, 4}, 2, 0, 1)
		finds(t, c, []int{1, 2}, 2, 0)
		counted(t, "P7.2", p, 2, 2, 2, 0)
	}
	// Who wants what was found shares it.
	table := pool.NewTable(p)
	if e := table.Share(c.Find([]int{1, 2, 9})...); e != api.OK || !slices.Equal(table.Blocks(), []int{2, 0}) {
		t.Fatalf("P6.8: Share: %d, %v", e, table.Blocks())
	}
	counted(t, "P6.8", p, 3, 2, 3, 0)
}
