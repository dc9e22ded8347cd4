package prefix_test

import (
	"fmt"
	"math"
	"slices"
	"testing"

	"augur/api"
	"augur/pool"
	"augur/prefix"
	"augur/testaid"
)

// made: a pool, all of whose blocks are free, and a cache over it.
func made(t *testing.T, blocks, size int) (*pool.Pool, *prefix.Cache) {
	t.Helper()
	p, e := pool.New(1, 1, blocks, size)
	if e != api.OK {
		t.Fatalf("P6.1: New(1, 1, %d, %d): %d", blocks, size, e)
	}
	c := prefix.New(p)
	if c == nil {
		t.Fatal("P7.1: New of a pool: nil")
	}
	return p, c
}

// takes: the next blocks are these, each held once.
func takes(t *testing.T, p *pool.Pool, blocks ...int) {
	t.Helper()
	for _, want := range blocks {
		if b, e := p.Take(); b != want || e != api.OK {
			t.Fatalf("P6.2: Take: %d, %d, want %d", b, e, want)
		}
	}
}

func drops(t *testing.T, p *pool.Pool, blocks ...int) {
	t.Helper()
	for _, block := range blocks {
		if e := p.Drop(block); e != api.OK {
			t.Fatalf("P6.3: Drop(%d): %d", block, e)
		}
	}
}

func grows(t *testing.T, table *pool.Table, n int, blocks ...int) {
	t.Helper()
	if e := table.Grow(n); e != api.OK || !slices.Equal(table.Blocks(), blocks) {
		t.Fatalf("P6.9: Grow(%d): %d, blocks %v, want %v", n, e, table.Blocks(), blocks)
	}
}

func finds(t *testing.T, c *prefix.Cache, tokens []int, blocks ...int) {
	t.Helper()
	if got := c.Find(tokens); !slices.Equal(got, blocks) {
		t.Errorf("P7.2: Find(%v): %v, want %v", tokens, got, blocks)
	}
}

func keeps(t *testing.T, c *prefix.Cache, tokens []int, blocks ...int) {
	t.Helper()
	if e := c.Keep(tokens, blocks); e != api.OK {
		t.Fatalf("P7.3: Keep(%v, %v): %d", tokens, blocks, e)
	}
}

func shrinks(t *testing.T, c *prefix.Cache, n, want int) {
	t.Helper()
	if got := c.Shrink(n); got != want {
		t.Errorf("P7.4: Shrink(%d): %d, want %d", n, got, want)
	}
}

// goes: Shrink(1) makes just this block free, one behind the other.
func goes(t *testing.T, p *pool.Pool, c *prefix.Cache, blocks ...int) {
	t.Helper()
	for i, block := range blocks {
		want := counts(p)
		want[block]--
		known := c.Len()
		if n := c.Shrink(1); n != 1 || c.Len() != known-1 || !slices.Equal(counts(p), want) || want[block] != 0 {
			t.Fatalf("P7.4: place %d: Shrink(1): %d, Len %d, counts %v, want block %d to go: %v", i, n, c.Len(), counts(p), block, want)
		}
	}
}

func counts(p *pool.Pool) []int {
	_, _, blocks, _ := p.Shape()
	list := make([]int, blocks)
	for block := range list {
		list[block] = p.Count(block)
	}
	return list
}

func counted(t *testing.T, what string, p *pool.Pool, want ...int) {
	t.Helper()
	if got := counts(p); !slices.Equal(got, want) {
		t.Errorf("%s: counts %v, want %v", what, got, want)
	}
}

func known(t *testing.T, what string, c *prefix.Cache, want int) {
	t.Helper()
	if c.Len() != want {
		t.Errorf("P7.5: %s: Len %d, want %d", what, c.Len(), want)
	}
}

// refuses: Keep answers ErrBlock, and the pool's counts and Len stay as they were.
func refuses(t *testing.T, p *pool.Pool, c *prefix.Cache, tokens []int, blocks ...int) {
	t.Helper()
	before, n := counts(p), c.Len()
	if e := c.Keep(tokens, blocks); e != api.ErrBlock {
		t.Errorf("P7.3: Keep(%v, %v): %d, want ErrBlock", tokens, blocks, e)
	}
	if !slices.Equal(counts(p), before) || c.Len() != n {
		t.Errorf("R2: a refused Keep(%v, %v): counts %v, were %v; Len %d, was %d", tokens, blocks, counts(p), before, c.Len(), n)
	}
}

func TestNil(t *testing.T) {
	if api.ErrArg != 1 || api.ErrBlock != 61 {
		t.Fatalf("the chapter's errors: %d, %d", api.ErrArg, api.ErrBlock)
	}
	c := prefix.New(nil)
	if c != nil {
		t.Fatal("P7.1: New of a nil pool is not nil")
	}
	for _, tokens := range [][]int{nil, {}, {1}, {1, 2, 3, 4}, make([]int, 100)} {
		if got := c.Find(tokens); len(got) != 0 {
			t.Errorf("P7.2: Find(%v) of a nil cache: %v", tokens, got)
		}
		for _, blocks := range [][]int{nil, {}, {0}, {-1, -1}, make([]int, 100)} {
			if e := c.Keep(tokens, blocks); e != api.ErrArg {
				t.Errorf("P7.3: Keep(%v, %v) of a nil cache: %d", tokens, blocks, e)
			}
		}
	}
	for _, n := range []int{math.MinInt, -1, 0, 1, 5, math.MaxInt} {
		shrinks(t, c, n, 0)
	}
	known(t, "of a nil cache", c, 0)
}

func TestNewKnowsNothing(t *testing.T) {
	p, c := made(t, 3, 2)
	takes(t, p, 0, 1)
	again := prefix.New(p)
	for _, c := range []*prefix.Cache{c, again} {
		known(t, "behind New", c, 0)
		for _, tokens := range [][]int{nil, {}, {0}, {0, 0}, {0, 0, 0, 0, 0}, {1, 2, 3}} {
			finds(t, c, tokens)
		}
		for _, n := range []int{math.MinInt, -1, 0, 1, math.MaxInt} {
			shrinks(t, c, n, 0)
		}
	}
	counted(t, "P7.1", p, 1, 1, 0)
}

func TestExamples(t *testing.T) {
	p, c := made(t, 6, 2)
	one, two := pool.NewTable(p), pool.NewTable(p)
	grows(t, one, 5, 0, 1, 2)
	finds(t, c, []int{5, 6, 7})
	keeps(t, c, []int{5, 6, 7, 8, 9}, 0, 1, 2)
	known(t, "example 1", c, 2)
	counted(t, "example 1", p, 2, 2, 1, 0, 0, 0)
	finds(t, c, []int{5, 6, 7}, 0)
	finds(t, c, []int{5, 6, 7, 8}, 0, 1)
	finds(t, c, []int{5, 6, 7, 9, 1, 1}, 0)
	finds(t, c, []int{6, 5})
	finds(t, c, []int{5})
	grows(t, two, 4, 3, 4)
	keeps(t, c, []int{5, 6, 1, 1}, 3, 4)
	known(t, "example 3", c, 3)
	counted(t, "example 3", p, 2, 2, 1, 1, 2, 0)
	finds(t, c, []int{5, 6, 1, 1}, 0, 4)
	refuses(t, p, c, []int{5, 6, 7, 8, 9, 9}, 0, 1)
	refuses(t, p, c, []int{8, 8}, 5)
	refuses(t, p, c, []int{8, 8, 9, 9}, 2, 2)
	refuses(t, p, c, []int{8, 8}, 1)
	keeps(t, c, []int{8})
	known(t, "example 4", c, 3)
	counted(t, "example 4", p, 2, 2, 1, 1, 2, 0)
	shrinks(t, c, 1, 0)
	if e := one.Trim(0); e != api.OK {
		t.Fatal(e)
	}
	counted(t, "example 5", p, 1, 1, 0, 1, 2, 0)
	finds(t, c, []int{5, 6, 1, 1}, 0, 4)
	shrinks(t, c, 5, 1)
	counted(t, "example 5", p, 1, 0, 0, 1, 2, 0)
	known(t, "example 5", c, 2)
	finds(t, c, []int{5, 6, 7, 8}, 0)
	finds(t, c, []int{5, 6, 1, 1}, 0, 4)
}

// The third example's other way: what is handed in for a known beginning may be handed in for a new one too.
func TestExampleTwiceButOnceNew(t *testing.T) {
	p, c := made(t, 6, 2)
	takes(t, p, 0, 1, 2)
	keeps(t, c, []int{5, 6, 7, 8, 9}, 0, 1, 2)
	takes(t, p, 3, 4)
	keeps(t, c, []int{5, 6, 1, 1}, 3, 3)
	known(t, "example 3", c, 3)
	counted(t, "example 3", p, 2, 2, 1, 2, 1, 0)
	finds(t, c, []int{5, 6, 1, 1}, 0, 3)
}

// Texts of every length about the bounds of blocks, of the least, the greatest and other sizes.
func TestLengths(t *testing.T) {
	for _, size := range []int{1, 2, 3, 7, api.MaxBlock - 1, api.MaxBlock} {
		for length := range 3*size + 2 {
			text := make([]int, length)
			for i := range text {
				text[i] = i + 1
			}
			whole := 0
			for (whole+1)*size <= length {
				whole++
			}
			p, c := made(t, 5, size)
			takes(t, p, 0, 1, 2, 3, 4)
			order := []int{3, 1, 4, 0}
			if whole > 0 {
				refuses(t, p, c, text, order[:whole-1]...)
			}
			keeps(t, c, text, order[:whole]...)
			known(t, fmt.Sprint("behind Keep of ", length), c, whole)
			want := []int{1, 1, 1, 1, 1}
			for _, block := range order[:whole] {
				want[block] = 2
			}
			counted(t, fmt.Sprintf("P7.3: Keep of %d tokens, size %d", length, size), p, want...)
			for n := range length + 1 {
				finds(t, c, text[:n], order[:n/size]...)
			}
			finds(t, c, append(slices.Clone(text), make([]int, 5*size)...), order[:whole]...)
			keeps(t, c, text, order[:whole]...)
			counted(t, fmt.Sprintf("P7.3: Keep once more of %d tokens, size %d", length, size), p, want...)
			drops(t, p, 0, 1, 2, 3, 4)
			shrinks(t, c, math.MaxInt, whole)
			counted(t, "P7.4", p, 0, 0, 0, 0, 0)
		}
	}
}

// Every token of every block tells texts apart, however near or far the other one is; tokens ahead of a block too.
func TestEveryTokenCounts(t *testing.T) {
	for _, size := range []int{1, 2, 5, api.MaxBlock} {
		for at := range 3 * size {
			p, c := made(t, 3, size)
			takes(t, p, 0, 1, 2)
			s := testaid.Source(at)
			text := make([]int, 3*size)
			for i := range text {
				text[i] = s.Below(2)
			}
			keeps(t, c, text, 0, 1, 2)
			for _, token := range []int{math.MinInt, -1, 1 - text[at], 2, 1 << 8, 1 << 16, 1 << 32, math.MaxInt} {
				other := slices.Clone(text)
				other[at] = token
				finds(t, c, other, []int{0, 1, 2}[:at/size]...)
			}
			finds(t, c, text, 0, 1, 2)
		}
	}
}

// Tokens are not looked at but for being the same: the greatest, the least and 0 are tokens as others are.
func TestGreatTokens(t *testing.T) {
	tokens := []int{math.MaxInt, math.MinInt, 0, -1, math.MaxInt - 1, math.MinInt + 1, 1 << 32, 1}
	p, c := made(t, len(tokens)+1, 1)
	for block, token := range tokens {
		takes(t, p, block)
		keeps(t, c, []int{token}, block)
	}
	known(t, "of single tokens", c, len(tokens))
	for block, token := range tokens {
		finds(t, c, []int{token, token}, block)
	}
	p, c = made(t, 4, api.MaxBlock)
	takes(t, p, 0, 1, 2, 3)
	great, zeros := slices.Repeat([]int{math.MaxInt, math.MinInt}, api.MaxBlock/2), make([]int, api.MaxBlock)
	keeps(t, c, slices.Concat(great, zeros), 2, 0)
	keeps(t, c, slices.Concat(zeros, great), 1, 3)
	known(t, "of great tokens", c, 4)
	finds(t, c, slices.Concat(great, zeros), 2, 0)
	finds(t, c, slices.Concat(zeros, great), 1, 3)
	finds(t, c, slices.Concat(great, great), 2)
	finds(t, c, slices.Concat(zeros, zeros), 1)
}

// Blocks of the same tokens, at other places or behind other tokens, are beginnings of their own.
func TestSameTokensElsewhere(t *testing.T) {
	p, c := made(t, 9, 2)
	takes(t, p, 0, 1, 2, 3, 4, 5, 6, 7, 8)
	keeps(t, c, []int{1, 1, 1, 1, 1, 1}, 0, 1, 2)
	known(t, "of one token again and again", c, 3)
	finds(t, c, []int{1, 1, 1, 1, 1, 1, 1, 1}, 0, 1, 2)
	keeps(t, c, []int{2, 2, 1, 1, 1, 1}, 3, 4, 5)
	finds(t, c, []int{2, 2, 1, 1, 1, 1, 1, 1}, 3, 4, 5)
	finds(t, c, []int{1, 1, 1, 1, 1, 1, 1, 1}, 0, 1, 2)
	finds(t, c, []int{3, 3, 1, 1, 1, 1})
	finds(t, c, []int{2, 2, 2, 2, 1, 1}, 3)
	finds(t, c, []int{1, 1, 2, 2, 1, 1}, 0)
	// Those that end alike go one by one.
	drops(t, p, 2, 5)
	goes(t, p, c, 5)
	finds(t, c, []int{1, 1, 1, 1, 1, 1}, 0, 1, 2)
	finds(t, c, []int{2, 2, 1, 1, 1, 1}, 3, 4)
	goes(t, p, c, 2)
	finds(t, c, []int{1, 1, 1, 1, 1, 1}, 0, 1)
	keeps(t, c, []int{1, 1, 1, 1, 1, 1}, 0, 1, 8)
	finds(t, c, []int{1, 1, 1, 1, 1, 1}, 0, 1, 8)
	finds(t, c, []int{2, 2, 1, 1, 1, 1}, 3, 4)
}

// Texts of as many blocks as there are, and of more.
func TestAllBlocks(t *testing.T) {
	for _, size := range []int{1, api.MaxBlock} {
		p, c := made(t, api.MaxBlocks, size)
		order := make([]int, api.MaxBlocks)
		for block := range order {
			takes(t, p, block)
			order[block] = api.MaxBlocks - 1 - block
		}
		text := make([]int, (api.MaxBlocks+1)*size)
		for i := range text {
			text[i] = i % 3
		}
		refuses(t, p, c, text, append(slices.Clone(order), 0)...)
		refuses(t, p, c, text, append(slices.Clone(order), api.MaxBlocks)...)
		refuses(t, p, c, text, order...)
		keeps(t, c, text[:len(text)-1], order...)
		known(t, "of all blocks", c, api.MaxBlocks)
		finds(t, c, text, order...)
		// All but the last one are known, and no block is left for that.
		refuses(t, p, c, text, append(slices.Clone(order), 0)...)
		finds(t, c, text[:len(text)-size-1], order[:api.MaxBlocks-1]...)
		for block := range api.MaxBlocks {
			drops(t, p, block)
		}
		slices.Reverse(order)
		goes(t, p, c, order...)
		known(t, "behind Shrink", c, 0)
	}
}

// Texts far longer than all blocks end soon.
func TestLongTexts(t *testing.T) {
	p, c := made(t, 3, 1)
	takes(t, p, 0, 1, 2)
	long := make([]int, 1<<22)
	refuses(t, p, c, long, 0, 1, 2)
	refuses(t, p, c, long, make([]int, 1<<22)...)
	finds(t, c, long)
	keeps(t, c, long[:2], 1, 0)
	finds(t, c, long, 1, 0)
	refuses(t, p, c, long, make([]int, 1<<22)...)
	keeps(t, c, nil, make([]int, 1<<22)...)
	keeps(t, c, long[:1], make([]int, 1<<22)...)
	counted(t, "P7.3", p, 2, 2, 1)
}
