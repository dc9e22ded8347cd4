package pool_test

import (
	"fmt"
	"math"
	"slices"
	"testing"

	"augur/api"
	"augur/pool"
	"augur/testaid"
)

func reads(t *testing.T, what string, table *pool.Table, blocks ...int) {
	t.Helper()
	if got := table.Blocks(); !slices.Equal(got, blocks) {
		t.Errorf("%s: Blocks: %v, want %v", what, got, blocks)
	}
}

func TestNilTable(t *testing.T) {
	if pool.NewTable(nil) != nil {
		t.Errorf("P6.7: there is a table of a nil pool")
	}
	var table *pool.Table
	for _, n := range []int{math.MinInt, -1, 0, 1, math.MaxInt} {
		is(t, "P6.8: Share of nil", table.Share(n), api.ErrArg)
		is(t, "P6.9: Grow of nil", table.Grow(n), api.ErrArg)
		is(t, "P6.10: Trim of nil", table.Trim(n), api.ErrArg)
		is(t, "P6.11: Own of nil", table.Own(n), api.ErrArg)
		if slot, e := table.Slot(n); slot != 0 || e != api.ErrArg {
			t.Errorf("P6.12: Slot of nil: %d, %d", slot, e)
		}
	}
	is(t, "P6.8: Share of nil", table.Share(), api.ErrArg)
	reads(t, "P6.12: of nil", table)
}

func TestNewTable(t *testing.T) {
	p := small(t)
	before := told(p)
	table := pool.NewTable(p)
	if table == nil {
		t.Fatal("P6.7: no table")
	}
	reads(t, "P6.7", table)
	for _, pos := range []int{math.MinInt, -1, 0, 1, math.MaxInt} {
		if slot, e := table.Slot(pos); slot != 0 || e != api.ErrSlot {
			t.Errorf("P6.7: Slot(%d): %d, %d", pos, slot, e)
		}
		is(t, "P6.7: Own", table.Own(pos), api.ErrSlot)
	}
	if told(p) != before {
		t.Errorf("P6.7: NewTable changed the pool")
	}
}

func TestShare(t *testing.T) {
	p := made(t, 2, 3, 6, 2)
	takes(t, p, 0, 1, 2, 3, 4, 5)
	s := testaid.Source(3)
	fill(t, p, &s)
	is(t, "P6.3: Drop", p.Drop(2), api.OK)
	is(t, "P6.3: Drop", p.Drop(5), api.OK)
	table := pool.NewTable(p)
	for _, blocks := range [][]int{
		{2}, {5}, {-1}, {6}, {math.MinInt}, {math.MaxInt},
		{0, 0}, {0, 1, 0}, {3, 1, 4, 1}, {0, 2}, {2, 0}, {0, 1, 3, 6}, {-1, 0}, {2, 2},
		slices.Repeat([]int{0}, 100000),
	} {
		stays(t, fmt.Sprintf("P6.8: Share of %.20s", fmt.Sprint(blocks)), func() api.Errno { return table.Share(blocks...) }, api.ErrBlock, p, table)
	}
	stays(t, "P6.8: Share of no block", func() api.Errno { return table.Share() }, api.OK, p, table)
	before := read(t, p, 8)
	is(t, "P6.8: Share", table.Share(4, 0, 3), api.OK)
	reads(t, "P6.8", table, 4, 0, 3)
	for block, want := range []int{2, 1, 0, 2, 2, 0} {
		if p.Count(block) != want {
			t.Errorf("P6.8: Count(%d): %d, want %d", block, p.Count(block), want)
		}
	}
	if read(t, p, 8) != before {
		t.Errorf("P6.8: Share changed what is in the blocks")
	}
	for _, blocks := range [][]int{nil, {1}, {4}, {2}, {1, 1}, {-1}} {
		stays(t, fmt.Sprint("P6.8: Share once more of ", blocks), func() api.Errno { return table.Share(blocks...) }, api.ErrArg, p, table)
	}
	other := pool.NewTable(p)
	is(t, "P6.8: Share", other.Share(3, 1), api.OK)
	if p.Count(3) != 3 || p.Count(1) != 2 {
		t.Errorf("P6.8: counts %d and %d", p.Count(3), p.Count(1))
	}
	is(t, "P6.10: Trim", table.Trim(0), api.OK)
	is(t, "P6.8: Share of a table that lost its blocks", table.Share(1), api.OK)
	reads(t, "P6.8", table, 1)
}

// A table that shares blocks goes on behind them.
func TestShareAndGrow(t *testing.T) {
	p := made(t, 1, 1, 5, 3)
	takes(t, p, 0, 1, 2)
	is(t, "P6.3: Drop", p.Drop(1), api.OK)
	table := pool.NewTable(p)
	is(t, "P6.8: Share", table.Share(2, 0), api.OK)
	is(t, "P6.9: Grow", table.Grow(10), api.OK)
	reads(t, "P6.9", table, 2, 0, 1, 3)
	for pos, want := range []int{6, 7, 8, 0, 1, 2, 3, 4, 5, 9, 10, 11} {
		if slot, e := table.Slot(pos); slot != want || e != api.OK {
			t.Errorf("P6.12: Slot(%d): %d, %d, want %d", pos, slot, e, want)
		}
	}
	is(t, "P6.10: Trim", table.Trim(4), api.OK)
	reads(t, "P6.10", table, 2, 0)
	for block, want := range []int{2, 0, 2, 0, 0} {
		if p.Count(block) != want {
			t.Errorf("P6.10: Count(%d): %d, want %d", block, p.Count(block), want)
		}
	}
}

func TestGrow(t *testing.T) {
	for _, size := range []int{1, 2, 3, api.MaxBlock} {
		p := made(t, 1, 1, 6, size)
		takes(t, p, 0, 1, 2, 3)
		is(t, "P6.3: Drop", p.Drop(1), api.OK)
		// Free are now 1, 4 and 5.
		free := []int{1, 4, 5}
		table := pool.NewTable(p)
		for n := range 3*size + 1 {
			need := int(math.Ceil(float64(n) / float64(size)))
			is(t, fmt.Sprint("P6.9: Grow ", n), table.Grow(n), api.OK)
			reads(t, fmt.Sprint("P6.9: Grow ", n), table, free[:need]...)
			if p.Left() != 3-need {
				t.Errorf("P6.9: Grow(%d) of blocks of %d: %d left", n, size, p.Left())
			}
			for _, fewer := range []int{0, 1, n / 2, n, need * size} {
				if fewer <= need*size {
					stays(t, fmt.Sprint("P6.9: Grow ", fewer), func() api.Errno { return table.Grow(fewer) }, api.OK, p, table)
				}
			}
			for _, more := range []int{3*size + 1, 4*size + 1, 1000000, math.MaxInt - 1, math.MaxInt} {
				stays(t, fmt.Sprint("P6.9: Grow ", more), func() api.Errno { return table.Grow(more) }, api.ErrFull, p, table)
			}
			for _, below := range []int{-1, -size, math.MinInt} {
				stays(t, fmt.Sprint("P6.9: Grow ", below), func() api.Errno { return table.Grow(below) }, api.ErrArg, p, table)
			}
		}
		for _, block := range free {
			if p.Count(block) != 1 {
				t.Errorf("P6.9: Count(%d): %d", block, p.Count(block))
			}
		}
		other := pool.NewTable(p)
		stays(t, "P6.9: Grow of no free block", func() api.Errno { return other.Grow(1) }, api.ErrFull, p, table, other)
		stays(t, "P6.9: Grow of no free block", func() api.Errno { return other.Grow(0) }, api.OK, p, table, other)
	}
}

// All that is lacking or nothing; what is taken is zeros.
func TestGrowAllOrNone(t *testing.T) {
	p := made(t, 2, 2, 5, 2)
	takes(t, p, 0, 1, 2, 3, 4)
	s := testaid.Source(12)
	fill(t, p, &s)
	table := pool.NewTable(p)
	is(t, "P6.8: Share", table.Share(3), api.OK)
	for _, block := range []int{4, 0, 2} {
		stays(t, "P6.9: Grow, one fewer than lacking", func() api.Errno { return table.Grow(7) }, api.ErrFull, p, table)
		is(t, "P6.3: Drop", p.Drop(block), api.OK)
	}
	stays(t, "P6.9: Grow, one fewer than lacking", func() api.Errno { return table.Grow(9) }, api.ErrFull, p, table)
	is(t, "P6.9: Grow, as many as lacking", table.Grow(8), api.OK)
	reads(t, "P6.9", table, 3, 0, 2, 4)
	for pos := 2; pos < 8; pos++ {
		slot, _ := table.Slot(pos)
		for layer := range 2 {
			gets(t, "P6.9", p, layer, slot, []int8{0, 0}, []int8{0, 0})
		}
	}
}

func TestTrim(t *testing.T) {
	for _, size := range []int{1, 2, 5} {
		p := made(t, 1, 1, 5, size)
		takes(t, p, 0)
		table := pool.NewTable(p)
		is(t, "P6.9: Grow", table.Grow(4*size), api.OK)
		for n := 4 * size; n >= 0; n-- {
			need := int(math.Ceil(float64(n) / float64(size)))
			is(t, fmt.Sprint("P6.10: Trim ", n), table.Trim(n), api.OK)
			reads(t, fmt.Sprint("P6.10: Trim ", n), table, []int{1, 2, 3, 4}[:need]...)
			if p.Left() != 4-need {
				t.Errorf("P6.10: Trim(%d) of blocks of %d: %d left", n, size, p.Left())
			}
			for _, more := range []int{n, n + 1, n + size, math.MaxInt} {
				stays(t, fmt.Sprint("P6.10: Trim ", more), func() api.Errno { return table.Trim(more) }, api.OK, p, table)
			}
			for _, below := range []int{-1, -size, math.MinInt} {
				stays(t, fmt.Sprint("P6.10: Trim ", below), func() api.Errno { return table.Trim(below) }, api.ErrArg, p, table)
			}
		}
		is(t, "P6.9: Grow", table.Grow(4*size), api.OK)
		is(t, "P6.10: Trim", table.Trim(0), api.OK)
		if p.Left() != 4 || p.Count(0) != 1 {
			t.Errorf("P6.10: Trim(0): %d left, block 0 held %d times", p.Left(), p.Count(0))
		}
	}
}

// A block goes from its table, but not from others that hold it.
func TestTrimShared(t *testing.T) {
	p := made(t, 1, 1, 4, 1)
	one, two := pool.NewTable(p), pool.NewTable(p)
	is(t, "P6.9: Grow", one.Grow(3), api.OK)
	is(t, "P6.8: Share", two.Share(0, 1), api.OK)
	puts(t, p, 0, 1, []int8{8}, []int8{9})
	is(t, "P6.10: Trim", one.Trim(1), api.OK)
	reads(t, "P6.10", one, 0)
	reads(t, "P6.10", two, 0, 1)
	if p.Count(0) != 2 || p.Count(1) != 1 || p.Count(2) != 0 {
		t.Errorf("P6.10: counts %d %d %d", p.Count(0), p.Count(1), p.Count(2))
	}
	gets(t, "P6.10", p, 0, 1, []int8{8}, []int8{9})
}

// A block that is dropped beside its table: the table keeps its list, and the calls do what they say.
func TestDroppedBeside(t *testing.T) {
	p := made(t, 1, 1, 3, 2)
	table := pool.NewTable(p)
	is(t, "P6.9: Grow", table.Grow(4), api.OK)
	is(t, "P6.3: Drop", p.Drop(1), api.OK)
	reads(t, "P6.13", table, 0, 1)
	if slot, e := table.Slot(3); slot != 3 || e != api.OK {
		t.Errorf("P6.12: Slot(3): %d, %d", slot, e)
	}
	if slot, e := table.Slot(4); slot != 0 || e != api.ErrSlot {
		t.Errorf("P6.12: Slot(4): %d, %d", slot, e)
	}
	stays(t, "P6.11: Own of a block not in use", func() api.Errno { return table.Own(2) }, api.ErrBlock, p, table)
	stays(t, "P6.11: Own of no block", func() api.Errno { return table.Own(4) }, api.ErrSlot, p, table)
	stays(t, "P6.9: Grow", func() api.Errno { return table.Grow(4) }, api.OK, p, table)
	stays(t, "P6.8: Share", func() api.Errno { return table.Share(1) }, api.ErrArg, p, table)
	// Block 1 is the lowest free one: so it stands in the table twice, held once.
	is(t, "P6.9: Grow", table.Grow(5), api.OK)
	reads(t, "P6.9", table, 0, 1, 1)
	is(t, "P6.10: Trim", table.Trim(4), api.OK)
	reads(t, "P6.10", table, 0, 1)
	if p.Count(1) != 0 {
		t.Errorf("P6.10: Count(1): %d", p.Count(1))
	}
	is(t, "P6.10: Trim of a block not in use", table.Trim(0), api.OK)
	reads(t, "P6.10", table)
	if p.Left() != 3 {
		t.Errorf("P6.10: %d left", p.Left())
	}
}

// A block that others took meanwhile is dropped all the same: whose hold goes is not asked.
func TestTrimOfOthersBlock(t *testing.T) {
	p := made(t, 1, 1, 2, 2)
	table := pool.NewTable(p)
	is(t, "P6.9: Grow", table.Grow(2), api.OK)
	is(t, "P6.3: Drop", p.Drop(0), api.OK)
	takes(t, p, 0)
	is(t, "P6.3: Hold", p.Hold(0), api.OK)
	is(t, "P6.10: Trim", table.Trim(0), api.OK)
	if p.Count(0) != 1 {
		t.Errorf("P6.10: Count(0): %d", p.Count(0))
	}
}

func TestOwn(t *testing.T) {
	p := made(t, 2, 3, 5, 2)
	one, two := pool.NewTable(p), pool.NewTable(p)
	is(t, "P6.9: Grow", one.Grow(6), api.OK)
	s := testaid.Source(30)
	fill(t, p, &s)
	stays(t, "P6.11: Own of a block held once", func() api.Errno { return one.Own(3) }, api.OK, p, one)
	is(t, "P6.8: Share", two.Share(0, 1, 2), api.OK)
	is(t, "P6.3: Hold", p.Hold(1), api.OK)
	for _, pos := range []int{math.MinInt, -2, -1, 6, 7, math.MaxInt} {
		stays(t, fmt.Sprint("P6.11: Own ", pos), func() api.Errno { return two.Own(pos) }, api.ErrSlot, p, one, two)
		if slot, e := two.Slot(pos); slot != 0 || e != api.ErrSlot {
			t.Errorf("P6.12: Slot(%d): %d, %d", pos, slot, e)
		}
	}
	before := through(t, p, two)
	is(t, "P6.11: Own", two.Own(3), api.OK)
	reads(t, "P6.11", one, 0, 1, 2)
	reads(t, "P6.11", two, 0, 3, 2)
	for block, want := range []int{2, 2, 2, 1, 0} {
		if p.Count(block) != want {
			t.Errorf("P6.11: Count(%d): %d, want %d", block, p.Count(block), want)
		}
	}
	if through(t, p, two) != before || through(t, p, one) != before {
		t.Errorf("P6.11: behind Own the tables read otherwise")
	}
	puts(t, p, 1, 7, []int8{1, 1, 1}, []int8{2, 2, 2})
	if through(t, p, one) != before {
		t.Errorf("P6.11: behind Own a Put is seen through another table")
	}
	stays(t, "P6.11: Own once more", func() api.Errno { return two.Own(2) }, api.OK, p, one, two)
	takes(t, p, 4)
	stays(t, "P6.11: Own with no block free", func() api.Errno { return two.Own(0) }, api.ErrFull, p, one, two)
	stays(t, "P6.11: Own with no block free", func() api.Errno { return two.Own(5) }, api.ErrFull, p, one, two)
	stays(t, "P6.11: Own of nothing with no block free", func() api.Errno { return two.Own(6) }, api.ErrSlot, p, one, two)
	stays(t, "P6.11: Own of a block held once with no block free", func() api.Errno { return two.Own(3) }, api.OK, p, one, two)
	is(t, "P6.3: Drop", p.Drop(4), api.OK)
	is(t, "P6.11: Own with one block free", two.Own(0), api.OK)
	reads(t, "P6.11", two, 4, 3, 2)
	if p.Left() != 0 || p.Count(0) != 1 {
		t.Errorf("P6.11: %d left, block 0 held %d times", p.Left(), p.Count(0))
	}
}

// A block that is not in use any more is told ahead of a full pool. The pool is filled by dropping and taking others.
func TestOwnOfDroppedInFullPool(t *testing.T) {
	p := made(t, 1, 1, 1, 1)
	table := pool.NewTable(p)
	is(t, "P6.9: Grow", table.Grow(1), api.OK)
	is(t, "P6.3: Drop", p.Drop(0), api.OK)
	stays(t, "P6.11: Own", func() api.Errno { return table.Own(0) }, api.ErrBlock, p, table)
	takes(t, p, 0)
	stays(t, "P6.11: Own", func() api.Errno { return table.Own(0) }, api.OK, p, table)
	is(t, "P6.3: Hold", p.Hold(0), api.OK)
	stays(t, "P6.11: Own", func() api.Errno { return table.Own(0) }, api.ErrFull, p, table)
}

// through: what a table reads, position by position.
func through(t *testing.T, p *pool.Pool, table *pool.Table) string {
	t.Helper()
	_, _, _, size := p.Shape()
	out := ""
	for pos := range len(table.Blocks()) * size {
		slot, e := table.Slot(pos)
		if e != api.OK {
			t.Fatalf("P6.12: Slot(%d): %d", pos, e)
		}
		out += read(t, p, slot) + ";"
	}
	return out
}

func TestSlot(t *testing.T) {
	for _, size := range []int{1, 3, api.MaxBlock} {
		p := made(t, 1, 1, api.MaxBlocks, size)
		for block := range api.MaxBlocks {
			takes(t, p, block)
		}
		order := make([]int, api.MaxBlocks)
		for i := range order {
			order[i] = i
		}
		s := testaid.Source(uint64(size))
		shuffle(&s, order)
		table := pool.NewTable(p)
		is(t, "P6.8: Share", table.Share(order...), api.OK)
		reads(t, "P6.12", table, order...)
		pos := 0
		for _, block := range order {
			for i := range size {
				if slot, e := table.Slot(pos); slot != block*size+i || e != api.OK {
					t.Fatalf("P6.12: Slot(%d): %d, %d, want %d", pos, slot, e, block*size+i)
				}
				pos++
			}
		}
		for _, pos := range []int{math.MinInt, -1, pos, pos + 1, math.MaxInt} {
			if slot, e := table.Slot(pos); slot != 0 || e != api.ErrSlot {
				t.Errorf("P6.12: Slot(%d): %d, %d", pos, slot, e)
			}
		}
	}
}
