package pool_test

import (
	"fmt"
	"math"
	"slices"
	"testing"

	"augur/api"
	"augur/pool"
	"augur/testaid"
)

// made: a pool, all of whose blocks are free.
func made(t *testing.T, layers, width, blocks, size int) *pool.Pool {
	t.Helper()
	p, e := pool.New(layers, width, blocks, size)
	if p == nil || e != api.OK {
		t.Fatalf("P6.1: New(%d, %d, %d, %d): %v, %d", layers, width, blocks, size, p, e)
	}
	return p
}

// small: the pool of the chapter's examples.
func small(t *testing.T) *pool.Pool {
	t.Helper()
	return made(t, 1, 2, 4, 2)
}

func is(t *testing.T, what string, got, want api.Errno) {
	t.Helper()
	if got != want {
		t.Errorf("%s: error %d, want %d", what, got, want)
	}
}

func takes(t *testing.T, p *pool.Pool, blocks ...int) {
	t.Helper()
	for _, want := range blocks {
		if b, e := p.Take(); b != want || e != api.OK {
			t.Fatalf("P6.2: Take: %d, %d, want %d", b, e, want)
		}
	}
}

func puts(t *testing.T, p *pool.Pool, layer, slot int, k, v []int8) {
	t.Helper()
	if e := p.Put(layer, slot, k, v); e != api.OK {
		t.Fatalf("P6.5: Put(%d, %d): %d", layer, slot, e)
	}
}

func gets(t *testing.T, what string, p *pool.Pool, layer, slot int, k, v []int8) {
	t.Helper()
	x, y, e := p.Get(layer, slot)
	if e != api.OK || !slices.Equal(x, k) || !slices.Equal(y, v) {
		t.Errorf("%s: Get(%d, %d): %v, %v, %d, want %v, %v", what, layer, slot, x, y, e, k, v)
	}
}

// told: all that the calls tell of a pool and of tables over it.
func told(p *pool.Pool, tables ...*pool.Table) string {
	layers, width, blocks, size := p.Shape()
	out := fmt.Sprintf("%d layers, width %d, %d blocks of %d, %d left; counts", layers, width, blocks, size, p.Left())
	for block := range blocks {
		out += fmt.Sprintf(" %d", p.Count(block))
	}
	for slot := range blocks * size {
		for layer := range layers {
			k, v, e := p.Get(layer, slot)
			out += fmt.Sprintf(" %v%v%d", k, v, e)
		}
	}
	for _, table := range tables {
		out += fmt.Sprintf("; %v", table.Blocks())
		for pos := range len(table.Blocks())*size + 1 {
			slot, e := table.Slot(pos)
			out += fmt.Sprintf(" %d/%d", slot, e)
		}
	}
	return out
}

// stays: a call answers an error, and nothing is told otherwise behind it.
func stays(t *testing.T, what string, call func() api.Errno, want api.Errno, p *pool.Pool, tables ...*pool.Table) {
	t.Helper()
	before := told(p, tables...)
	is(t, what, call(), want)
	if after := told(p, tables...); after != before {
		t.Errorf("R2: %s: it was %s, and is %s", what, before, after)
	}
}

// fill puts into every slot that is in use numbers that look drawn.
func fill(t *testing.T, p *pool.Pool, s *testaid.Source) {
	t.Helper()
	layers, width, blocks, size := p.Shape()
	for slot := range blocks * size {
		for layer := range layers {
			if p.Count(slot/size) > 0 {
				puts(t, p, layer, slot, s.Narrow(width), s.Narrow(width))
			}
		}
	}
}

func TestNewBounds(t *testing.T) {
	most := []int{api.MaxLayers, api.MaxWidth, api.MaxBlocks, api.MaxBlock}
	if !slices.Equal(most, []int{4, 32, 256, 16}) {
		t.Fatalf("the chapter's limits: %v", most)
	}
	for at, limit := range most {
		for _, n := range []int{math.MinInt, -1, 0, 1, 2, limit - 1, limit, limit + 1, math.MaxInt} {
			m := []int{2, 3, 4, 5}
			m[at] = n
			p, e := pool.New(m[0], m[1], m[2], m[3])
			if n < 1 || n > limit {
				if p != nil || e != api.ErrArg {
					t.Errorf("P6.1: New%v: %v, %d", m, p, e)
				}
				continue
			}
			if p == nil || e != api.OK {
				t.Fatalf("P6.1: New%v: %v, %d", m, p, e)
			}
			a, b, c, d := p.Shape()
			if !slices.Equal([]int{a, b, c, d}, m) {
				t.Errorf("P6.1: Shape of New%v: %d %d %d %d", m, a, b, c, d)
			}
			if p.Left() != m[2] {
				t.Errorf("P6.1: New%v: %d blocks are free", m, p.Left())
			}
			for block := range m[2] {
				if p.Count(block) != 0 {
					t.Errorf("P6.1: New%v: block %d is in use", m, block)
				}
			}
		}
	}
}

// The least and the greatest pool: each block can be taken, each slot written.
func TestWholePool(t *testing.T) {
	for _, m := range [][4]int{{1, 1, 1, 1}, {4, 32, 256, 16}} {
		p := made(t, m[0], m[1], m[2], m[3])
		for block := range m[2] {
			takes(t, p, block)
		}
		_, e := p.Take()
		is(t, "P6.2: Take of a full pool", e, api.ErrFull)
		s, again := testaid.Source(6), testaid.Source(6)
		fill(t, p, &s)
		for slot := range m[2] * m[3] {
			for layer := range m[0] {
				gets(t, "P6.5", p, layer, slot, again.Narrow(m[1]), again.Narrow(m[1]))
			}
		}
	}
}

func TestTakeLowest(t *testing.T) {
	p := made(t, 1, 1, 5, 1)
	takes(t, p, 0, 1, 2, 3, 4)
	for _, block := range []int{3, 1, 4} {
		is(t, "P6.3: Drop", p.Drop(block), api.OK)
	}
	takes(t, p, 1, 3, 4)
	if b, e := p.Take(); b != 0 || e != api.ErrFull {
		t.Errorf("P6.2: Take of a full pool: %d, %d", b, e)
	}
	is(t, "P6.3: Drop", p.Drop(2), api.OK)
	takes(t, p, 2)
	if p.Count(2) != 1 || p.Left() != 0 {
		t.Errorf("P6.2: a taken block's count is %d, %d are left", p.Count(2), p.Left())
	}
}

// Whatever stood in a block, Take gives zeros: of it all, and of it alone.
func TestTakeClears(t *testing.T) {
	p := made(t, 3, 4, 3, 5)
	takes(t, p, 0, 1, 2)
	s := testaid.Source(2)
	fill(t, p, &s)
	is(t, "P6.3: Drop", p.Drop(1), api.OK)
	others := func() string {
		out := ""
		for _, slot := range []int{0, 1, 2, 3, 4, 10, 11, 12, 13, 14} {
			for layer := range 3 {
				out += fmt.Sprint(p.Get(layer, slot))
			}
		}
		return out
	}
	before := others()
	takes(t, p, 1)
	for slot := 5; slot < 10; slot++ {
		for layer := range 3 {
			gets(t, "P6.2", p, layer, slot, make([]int8, 4), make([]int8, 4))
		}
	}
	if others() != before {
		t.Errorf("P6.2: Take wrote into other blocks")
	}
}

func TestHoldAndDrop(t *testing.T) {
	p := made(t, 1, 1, 3, 2)
	takes(t, p, 0, 1, 2)
	is(t, "P6.3: Drop", p.Drop(1), api.OK)
	for _, block := range []int{math.MinInt, -3, -1, 1, 3, 4, math.MaxInt} {
		stays(t, fmt.Sprint("P6.3: Hold ", block), func() api.Errno { return p.Hold(block) }, api.ErrBlock, p)
		stays(t, fmt.Sprint("P6.3: Drop ", block), func() api.Errno { return p.Drop(block) }, api.ErrBlock, p)
		if p.Count(block) != 0 {
			t.Errorf("P6.4: Count(%d): %d", block, p.Count(block))
		}
	}
	for _, block := range []int{0, 2} {
		for want := 2; want <= 300; want++ {
			is(t, "P6.3: Hold", p.Hold(block), api.OK)
			if p.Count(block) != want || p.Left() != 1 {
				t.Fatalf("P6.3: Count(%d) is %d, want %d; left %d", block, p.Count(block), want, p.Left())
			}
		}
		puts(t, p, 0, block*2+1, []int8{7}, []int8{9})
		for want := 299; want >= 1; want-- {
			is(t, "P6.3: Drop", p.Drop(block), api.OK)
			if p.Count(block) != want || p.Left() != 1 {
				t.Fatalf("P6.3: Count(%d) is %d, want %d; left %d", block, p.Count(block), want, p.Left())
			}
		}
		gets(t, "P6.3", p, 0, block*2+1, []int8{7}, []int8{9})
	}
	is(t, "P6.3: Drop", p.Drop(2), api.OK)
	if p.Count(2) != 0 || p.Count(0) != 1 || p.Left() != 2 {
		t.Errorf("P6.4: counts %d and %d, left %d", p.Count(0), p.Count(2), p.Left())
	}
	is(t, "P6.3: Drop of a free block", p.Drop(2), api.ErrBlock)
}

func TestNilPool(t *testing.T) {
	var p *pool.Pool
	if a, b, c, d := p.Shape(); a != 0 || b != 0 || c != 0 || d != 0 {
		t.Errorf("P6.1: Shape of nil: %d %d %d %d", a, b, c, d)
	}
	for _, n := range []int{math.MinInt, -1, 0, 1, math.MaxInt} {
		if b, e := p.Take(); b != 0 || e != api.ErrArg {
			t.Errorf("P6.2: Take of nil: %d, %d", b, e)
		}
		is(t, "P6.3: Hold of nil", p.Hold(n), api.ErrArg)
		is(t, "P6.3: Drop of nil", p.Drop(n), api.ErrArg)
		if p.Count(n) != 0 || p.Left() != 0 {
			t.Errorf("P6.4: nil tells the count %d, %d left", p.Count(n), p.Left())
		}
		is(t, "P6.5: Put of nil", p.Put(n, n, nil, []int8{1}), api.ErrArg)
		if k, v, e := p.Get(n, n); len(k) != 0 || len(v) != 0 || e != api.ErrArg {
			t.Errorf("P6.5: Get of nil: %v, %v, %d", k, v, e)
		}
		is(t, "P6.6: Move of nil", p.Move(api.Move{From: n, To: n}), api.ErrArg)
	}
	is(t, "P6.6: Move of nil", p.Move(), api.ErrArg)
}

// The chapter's examples, one behind the other over one pool.
func TestExamples(t *testing.T) {
	p := small(t)
	takes(t, p, 0, 1)
	is(t, "example 1", p.Hold(1), api.OK)
	puts(t, p, 0, 0, []int8{9, 9}, []int8{9, 9})
	puts(t, p, 0, 1, []int8{9, 9}, []int8{9, 9})
	is(t, "example 1", p.Drop(0), api.OK)
	takes(t, p, 0)
	gets(t, "example 1", p, 0, 0, []int8{0, 0}, []int8{0, 0})
	gets(t, "example 1", p, 0, 1, []int8{0, 0}, []int8{0, 0})
	if p.Count(1) != 2 || p.Left() != 2 || p.Count(4) != 0 {
		t.Errorf("example 1: counts %d, %d, left %d", p.Count(1), p.Count(4), p.Left())
	}
	is(t, "example 1", p.Drop(3), api.ErrBlock)
	is(t, "example 1", p.Drop(-1), api.ErrBlock)
	is(t, "example 1", p.Hold(4), api.ErrBlock)

	is(t, "example 2", p.Put(0, 2, []int8{1, 2}, []int8{3, 4}), api.OK)
	gets(t, "example 2", p, 0, 2, []int8{1, 2}, []int8{3, 4})
	is(t, "example 2", p.Put(1, 2, []int8{1, 2}, []int8{3, 4}), api.ErrSlot)
	is(t, "example 2", p.Put(0, 4, []int8{1, 2}, []int8{3, 4}), api.ErrSlot)
	is(t, "example 2", p.Put(0, 9, []int8{1}, []int8{3, 4}), api.ErrSlot)
	is(t, "example 2", p.Put(0, 2, []int8{1}, []int8{3, 4}), api.ErrShape)

	is(t, "example 3", p.Move(api.Move{From: 2, To: 3}, api.Move{From: 3, To: 2}), api.OK)
	gets(t, "example 3", p, 0, 3, []int8{1, 2}, []int8{3, 4})
	gets(t, "example 3", p, 0, 2, []int8{0, 0}, []int8{0, 0})
	is(t, "example 3", p.Move(api.Move{From: 2, To: 3}, api.Move{From: 0, To: 3}), api.ErrSlot)
	is(t, "example 3", p.Move(api.Move{From: 2, To: 2}), api.OK)

	first := pool.NewTable(p)
	is(t, "example 4", first.Grow(3), api.OK)
	reads(t, "example 4", first, 2, 3)
	for pos, want := range []int{4, 5, 6, 7} {
		if slot, e := first.Slot(pos); slot != want || e != api.OK {
			t.Errorf("example 4: Slot(%d): %d, %d", pos, slot, e)
		}
	}
	if slot, e := first.Slot(4); slot != 0 || e != api.ErrSlot {
		t.Errorf("example 4: Slot(4): %d, %d", slot, e)
	}
	is(t, "example 4", first.Grow(1), api.OK)
	reads(t, "example 4", first, 2, 3)
	is(t, "example 4", first.Grow(5), api.ErrFull)
	reads(t, "example 4", first, 2, 3)
	is(t, "example 4", first.Trim(2), api.OK)
	if p.Count(3) != 0 || p.Count(2) != 1 {
		t.Errorf("example 4: behind Trim(2) the counts are %d and %d", p.Count(2), p.Count(3))
	}
	is(t, "example 4", first.Trim(0), api.OK)
	if p.Count(2) != 0 {
		t.Errorf("example 4: behind Trim(0) the count is %d", p.Count(2))
	}

	is(t, "example 5", first.Grow(2), api.OK)
	reads(t, "example 5", first, 2)
	puts(t, p, 0, 5, []int8{5, 6}, []int8{7, 8})
	second, third := pool.NewTable(p), pool.NewTable(p)
	is(t, "example 5", second.Share(2), api.OK)
	if p.Count(2) != 2 {
		t.Errorf("example 5: behind Share the count is %d", p.Count(2))
	}
	is(t, "example 5", second.Own(1), api.OK)
	reads(t, "example 5", second, 3)
	gets(t, "example 5", p, 0, 7, []int8{5, 6}, []int8{7, 8})
	if p.Count(2) != 1 || p.Count(3) != 1 {
		t.Errorf("example 5: behind Own the counts are %d and %d", p.Count(2), p.Count(3))
	}
	stays(t, "example 5", func() api.Errno { return second.Own(1) }, api.OK, p, first, second)
	stays(t, "example 5", func() api.Errno { return second.Share(3) }, api.ErrArg, p, first, second)
	stays(t, "example 5", func() api.Errno { return third.Share(2, 2) }, api.ErrBlock, p, first, second, third)

	for _, m := range [][4]int{{1, 2, 0, 2}, {1, 33, 4, 2}, {5, 2, 4, 2}, {1, 2, 4, 17}} {
		_, e := pool.New(m[0], m[1], m[2], m[3])
		is(t, "example 6", e, api.ErrArg)
	}
}
