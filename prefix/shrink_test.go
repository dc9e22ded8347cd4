package prefix_test

import (
	"fmt"
	"math"
	"slices"
	"testing"

	"augur/api"
	"augur/pool"
	"augur/prefix"
)

// kept: the cache alone holds the blocks of these texts, each of size 1, in the order in which they are taken.
func kept(t *testing.T, blocks int, texts ...[]int) (*pool.Pool, *prefix.Cache) {
	t.Helper()
	p, c := made(t, blocks, 1)
	for _, text := range texts {
		keepsAlone(t, p, c, text)
	}
	return p, c
}

// keepsAlone: blocks are taken for those beginnings that are not known, kept, and dropped.
func keepsAlone(t *testing.T, p *pool.Pool, c *prefix.Cache, text []int) {
	t.Helper()
	table := pool.NewTable(p)
	if e := table.Share(c.Find(text)...); e != api.OK {
		t.Fatalf("P6.8: Share: %d", e)
	}
	_, _, _, size := p.Shape()
	if e := table.Grow(len(text) / size * size); e != api.OK {
		t.Fatalf("P6.9: Grow: %d", e)
	}
	keeps(t, c, text, table.Blocks()...)
	if e := table.Trim(0); e != api.OK {
		t.Fatalf("P6.10: Trim: %d", e)
	}
}

func TestShrinkNumbers(t *testing.T) {
	for _, n := range []int{math.MinInt, -2, -1, 0, 1, 2, 3, 4, 5, 6, math.MaxInt} {
		p, c := kept(t, 7, []int{1, 2}, []int{3}, []int{4, 5})
		want := max(0, min(n, 5))
		shrinks(t, c, n, want)
		known(t, fmt.Sprint("behind Shrink of ", n), c, 5-want)
		if p.Left() != 2+want {
			t.Errorf("P7.4: Shrink(%d): %d left", n, p.Left())
		}
		shrinks(t, c, math.MaxInt, 5-want)
		shrinks(t, c, 1, 0)
		counted(t, "P7.4", p, 0, 0, 0, 0, 0, 0, 0)
	}
}

// A block that somebody else holds keeps its beginning and all shorter ones, but no longer and no other one.
func TestShrinkOfHeld(t *testing.T) {
	for held := range 3 {
		p, c := kept(t, 5, []int{1, 2, 3}, []int{4})
		for range 1 + held {
			if e := p.Hold(held); e != api.OK {
				t.Fatal(e)
			}
		}
		shrinks(t, c, 9, 3-held)
		known(t, "of held ones", c, held+1)
		finds(t, c, []int{1, 2, 3}, []int{0, 1, 2}[:held+1]...)
		finds(t, c, []int{4})
		for range held {
			drops(t, p, held)
			shrinks(t, c, 9, 0)
		}
		drops(t, p, held)
		shrinks(t, c, 9, held+1)
		counted(t, "P7.4", p, 0, 0, 0, 0, 0)
	}
}

// The shorter one is used as lately as its longer ones at least, but goes behind them in any case.
func TestLongerGoFirst(t *testing.T) {
	p, c := kept(t, 8, []int{1, 2, 3})
	goes(t, p, c, 2, 1, 0)
	// Branches: (1) with (1 2), (1 3), (1 3 4).
	p, c = kept(t, 8, []int{1, 2}, []int{1, 3, 4})
	finds(t, c, []int{1, 2}, 0, 1)
	goes(t, p, c, 3, 2, 1, 0)
	// (1) is used least lately of all that are left once (1 2) went: it goes ahead of (5).
	p, c = kept(t, 8, []int{1, 2}, []int{5}, []int{6})
	goes(t, p, c, 1, 0, 2, 3)
}

// One call of Shrink does what as many calls of Shrink(1) do.
func TestShrinkOneByOne(t *testing.T) {
	for n := range 8 {
		var left [2][]int
		for i := range left {
			p, c := kept(t, 8, []int{1, 2}, []int{5}, []int{1, 3, 4}, []int{6, 7})
			finds(t, c, []int{5}, 2)
			finds(t, c, []int{1, 2}, 0, 1)
			if i == 0 {
				shrinks(t, c, n, min(n, 7))
			}
			for range n * i {
				c.Shrink(1)
			}
			left[i] = counts(p)
		}
		if !slices.Equal(left[0], left[1]) {
			t.Errorf("P7.4: Shrink(%d) leaves %v, one by one %v are left", n, left[0], left[1])
		}
	}
}

// What uses a beginning: finding it, finding a longer one; keeping it, keeping a longer one, known before or new.
func TestLatelyUsed(t *testing.T) {
	start := func() (*pool.Pool, *prefix.Cache) { return kept(t, 6, []int{1}, []int{2}, []int{3}) }
	p, c := start()
	goes(t, p, c, 0, 1, 2)
	p, c = start()
	finds(t, c, []int{1}, 0)
	goes(t, p, c, 1, 2, 0)
	p, c = start()
	finds(t, c, []int{1, 7, 7}, 0)
	finds(t, c, []int{2}, 1)
	goes(t, p, c, 2, 0, 1)
	p, c = start()
	keeps(t, c, []int{1}, 2)
	goes(t, p, c, 1, 2, 0)
	// A longer one, new: it goes first, as it is used least lately of what may go; (1) was used with it.
	p, c = start()
	keepsAlone(t, p, c, []int{1, 4})
	finds(t, c, []int{2}, 1)
	finds(t, c, []int{3}, 2)
	goes(t, p, c, 3, 0, 1, 2)
	p, c = start()
	keepsAlone(t, p, c, []int{1, 4})
	goes(t, p, c, 1, 2, 3, 0)
}

// A Find that leads through a beginning to a longer one uses both; one that ends at it does not use the longer one.
func TestFindOfLonger(t *testing.T) {
	start := func() (*pool.Pool, *prefix.Cache) { return kept(t, 8, []int{1, 2}, []int{3, 4}) }
	p, c := start()
	finds(t, c, []int{1, 2, 9}, 0, 1)
	goes(t, p, c, 3, 2, 1, 0)
	p, c = start()
	finds(t, c, []int{1, 9}, 0)
	goes(t, p, c, 1, 3, 2, 0)
	p, c = start()
	keeps(t, c, []int{1}, 3)
	goes(t, p, c, 1, 3, 2, 0)
	p, c = start()
	keeps(t, c, []int{1, 2}, 3, 3)
	goes(t, p, c, 3, 2, 1, 0)
	// A longer one that is new uses the two known ones ahead of it.
	p, c = start()
	keepsAlone(t, p, c, []int{1, 2, 5})
	finds(t, c, []int{3}, 2)
	goes(t, p, c, 3, 4, 1, 0, 2)
}

// The least lately used of those that may go: one that may not go is passed over.
func TestPassedOver(t *testing.T) {
	p, c := kept(t, 6, []int{1}, []int{2}, []int{3})
	if e := p.Hold(0); e != api.OK {
		t.Fatal(e)
	}
	goes(t, p, c, 1)
	drops(t, p, 0)
	goes(t, p, c, 0, 2)
}

// What went is known no more: it may be kept anew, with another block, and is then used as lately as that.
func TestKeptAnew(t *testing.T) {
	p, c := kept(t, 4, []int{1}, []int{2}, []int{3})
	goes(t, p, c, 0)
	finds(t, c, []int{1})
	takes(t, p, 0, 3)
	keeps(t, c, []int{1, 2}, 3, 0)
	finds(t, c, []int{1, 2}, 3, 0)
	finds(t, c, []int{2}, 1)
	drops(t, p, 0, 3)
	goes(t, p, c, 2, 0, 3, 1)
}

// Two caches over one pool: each knows its own; a block that both hold may not go from either.
func TestTwoCaches(t *testing.T) {
	p, one := made(t, 5, 1)
	two := prefix.New(p)
	takes(t, p, 0, 1, 2)
	keeps(t, one, []int{1, 2}, 0, 1)
	finds(t, two, []int{1, 2})
	known(t, "of the other cache", two, 0)
	keeps(t, two, []int{1, 3}, 0, 2)
	counted(t, "P7.3: two caches", p, 3, 2, 2, 0, 0)
	finds(t, one, []int{1, 3}, 0)
	finds(t, two, []int{1, 3}, 0, 2)
	// To the one cache the block of (1 3) is nobody's yet; what is the other's own beginnings' is not asked.
	keeps(t, one, []int{7}, 2)
	drops(t, p, 0, 1, 2)
	counted(t, "P7.3: two caches", p, 2, 1, 2, 0, 0)
	shrinks(t, two, 9, 0)
	shrinks(t, one, 9, 1)
	counted(t, "P7.4: two caches", p, 2, 0, 2, 0, 0)
	known(t, "of one", one, 2)
	known(t, "of two", two, 2)
	finds(t, two, []int{1, 3}, 0, 2)
	finds(t, one, []int{1, 2}, 0)
}
