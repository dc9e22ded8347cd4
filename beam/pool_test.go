package beam_test

import (
	"reflect"
	"slices"
	"testing"

	"augur/api"
	"augur/pool"
	"augur/testaid"
)

// keep: others hold drawn blocks of a pool, some more than once, with drawn numbers in all slots; so many are left free.
func keep(t *testing.T, s *testaid.Source, p *pool.Pool, free int) {
	t.Helper()
	layers, width, blocks, size := p.Shape()
	for range blocks {
		p.Take()
	}
	for slot := range blocks * size {
		for layer := range layers {
			if e := p.Put(layer, slot, s.Narrow(width), s.Narrow(width)); e != api.OK {
				t.Fatalf("Put answered the error %d", e)
			}
		}
	}
	for p.Left() < free {
		if block := s.Below(blocks); p.Count(block) > 0 {
			p.Drop(block)
		}
	}
	for block := range blocks {
		for range s.Below(3) {
			p.Hold(block)
		}
	}
}

// held: a block's count, and what stands in its slots if it is in use.
type held struct {
	count   int
	numbers [][]int8
}

func heldOf(p *pool.Pool) []held {
	layers, _, blocks, size := p.Shape()
	out := make([]held, blocks)
	for block := range out {
		out[block].count = p.Count(block)
		for slot := block * size; slot < (block+1)*size && out[block].count > 0; slot++ {
			for layer := range layers {
				k, v, _ := p.Get(layer, slot)
				out[block].numbers = append(out[block].numbers, k, v)
			}
		}
	}
	return out
}

// stays: whatever is done, the pool is as before.
func stays(t *testing.T, p *pool.Pool, do func()) {
	t.Helper()
	before := heldOf(p)
	do()
	if !reflect.DeepEqual(heldOf(p), before) {
		t.Fatal("P26.4: the pool is not as before")
	}
}

// Whoever holds blocks beside a search finds them as they were, and the answer does not hang on them or on what stood in the free ones.
func TestPoolStays(t *testing.T) {
	s := testaid.Source(2620)
	for _, c := range small()[1:] {
		l := tellerOf(t, s.Tight(c))
		for range 12 {
			prompt, n := drawn(&s, c, 1+s.Below(c.Len-1)), 1+s.Below(8)
			most := 1 + s.Below(c.Len-len(prompt))
			fit := sizes(len(prompt), n, most)
			size := fit[s.Below(len(fit))]
			free := need(len(prompt), n, most, size)
			p := poolOf(t, c, min(api.MaxBlocks, free+10+s.Below(60)), size)
			keep(t, &s, p, free)
			want := l.first(prompt, n, most)
			for range 3 {
				stays(t, p, func() { l.finds(p, prompt, n, most, want) })
			}
		}
	}
}

// Behind an error too.
func TestPoolStaysBehindErrors(t *testing.T) {
	s := testaid.Source(2621)
	l := ring(t)
	p := poolOf(t, l.w.Config, 20, 2)
	keep(t, &s, p, 6)
	other := poolOf(t, measures()[3], 20, 2)
	keep(t, &s, other, 6)
	stays(t, other, func() { refuses(t, l.m, other, []int{1}, 1, 1, api.ErrShape) })
	for _, c := range []struct {
		prompt  []int
		n, most int
		want    api.Errno
	}{
		{nil, 1, 1, api.ErrEmpty}, {make([]int, 17), 1, 1, api.ErrLong}, {[]int{1, 4}, 1, 1, api.ErrToken}, {[]int{1}, 17, 1, api.ErrArg},
		{[]int{1}, 1, 0, api.ErrArg}, {[]int{1}, 1, 16, api.ErrLong}, {[]int{1}, 3, 2, api.ErrFull}, {[]int{1}, 2, 4, api.ErrFull},
	} {
		stays(t, p, func() { refuses(t, l.m, p, c.prompt, c.n, c.most, c.want) })
		stays(t, p, func() { refuses(t, nil, p, c.prompt, c.n, c.most, api.ErrArg) })
	}
	stays(t, p, func() { l.finds(p, []int{1}, 2, 3, l.first([]int{1}, 2, 3)) })
}

// Tables over the pool go on as if there had been no search between.
func TestTablesGoOn(t *testing.T) {
	l := ring(t)
	p := poolOf(t, l.w.Config, 40, 2)
	first, second := pool.NewTable(p), pool.NewTable(p)
	first.Grow(5)
	second.Share(first.Blocks()...)
	for most := 1; most < 6; most++ {
		l.finds(p, []int{1, 2}, 4, most, l.first([]int{1, 2}, 4, most))
	}
	if e := second.Own(4); e != api.OK || !slices.Equal(second.Blocks(), []int{0, 1, 3}) || !slices.Equal(first.Blocks(), []int{0, 1, 2}) {
		t.Errorf("P26.4: the tables have the blocks %v and %v", first.Blocks(), second.Blocks())
	}
	first.Trim(0)
	second.Trim(0)
	if p.Left() != 40 {
		t.Errorf("P26.4: %d of 40 blocks are free in the end", p.Left())
	}
}

// A pool of the least blocks that a search may have is enough for the search that parts most.
func TestLeastPool(t *testing.T) {
	for _, vocab := range []int{2, 3, 17, 64} {
		l := level(t, vocab, 20)
		for n := 1; n <= api.MaxLive; n++ {
			for _, size := range sizes(3, n, 17) {
				p := l.enough([]int{1, 1, 1}, n, 17, size)
				stays(t, p, func() { l.finds(p, []int{1, 1, 1}, n, 17, l.first([]int{1, 1, 1}, n, 17)) })
			}
		}
	}
}
