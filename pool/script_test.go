package pool_test

import (
	"fmt"
	"math"
	"slices"
	"testing"

	"augur/api"
	"augur/pool"
	"augur/testaid"
)

// world: a pool and tables over it, as the chapter's words tell them, kept slot by slot and layer by layer in maps.
type world struct {
	layers, width, blocks, size int
	count                       map[int]int
	keys, values                map[[2]int]string // by layer and slot
	tables                      [][]int
}

func newWorld(layers, width, blocks, size, tables int) *world {
	return &world{layers, width, blocks, size, map[int]int{}, map[[2]int]string{}, map[[2]int]string{}, make([][]int, tables)}
}

func (w *world) isSlot(slot int) bool {
	for block := range w.blocks {
		if w.count[block] > 0 && block*w.size <= slot && slot <= block*w.size+w.size-1 {
			return true
		}
	}
	return false
}

func (w *world) need(n int) int {
	// No table of these tests comes near this many blocks, so counting need not go on.
	const many = 1000
	need := 0
	for need < many && need*w.size < n {
		need++
	}
	return need
}

func (w *world) left() int {
	left := w.blocks
	for block := range w.blocks {
		if w.count[block] > 0 {
			left--
		}
	}
	return left
}

func (w *world) take() (int, api.Errno) {
	for block := range w.blocks {
		if w.count[block] > 0 {
			continue
		}
		w.count[block] = 1
		for slot := block * w.size; slot < (block+1)*w.size; slot++ {
			for layer := range w.layers {
				w.keys[[2]int{layer, slot}] = fmt.Sprint(make([]int8, w.width))
				w.values[[2]int{layer, slot}] = fmt.Sprint(make([]int8, w.width))
			}
		}
		return block, api.OK
	}
	return 0, api.ErrFull
}

func (w *world) hold(block, more int) api.Errno {
	if w.count[block] == 0 {
		return api.ErrBlock
	}
	w.count[block] += more
	return api.OK
}

func (w *world) put(layer, slot int, k, v []int8) api.Errno {
	switch {
	case layer < 0 || layer >= w.layers || !w.isSlot(slot):
		return api.ErrSlot
	case len(k) != w.width || len(v) != w.width:
		return api.ErrShape
	}
	w.keys[[2]int{layer, slot}] = fmt.Sprint(k)
	w.values[[2]int{layer, slot}] = fmt.Sprint(v)
	return api.OK
}

func (w *world) move(ms []api.Move) api.Errno {
	for i, m := range ms {
		if !w.isSlot(m.From) || !w.isSlot(m.To) {
			return api.ErrSlot
		}
		for _, other := range ms[:i] {
			if other.To == m.To {
				return api.ErrSlot
			}
		}
	}
	keys, values := map[[2]int]string{}, map[[2]int]string{}
	for _, m := range ms {
		for layer := range w.layers {
			keys[[2]int{layer, m.To}] = w.keys[[2]int{layer, m.From}]
			values[[2]int{layer, m.To}] = w.values[[2]int{layer, m.From}]
		}
	}
	for at := range keys {
		w.keys[at], w.values[at] = keys[at], values[at]
	}
	return api.OK
}

func (w *world) share(table int, blocks []int) api.Errno {
	if len(w.tables[table]) > 0 {
		return api.ErrArg
	}
	for i, block := range blocks {
		if w.count[block] == 0 || slices.Contains(blocks[:i], block) {
			return api.ErrBlock
		}
	}
	for _, block := range blocks {
		w.count[block]++
	}
	w.tables[table] = slices.Clone(blocks)
	return api.OK
}

func (w *world) grow(table, n int) api.Errno {
	if n < 0 {
		return api.ErrArg
	}
	need := w.need(n)
	if need-len(w.tables[table]) > w.left() {
		return api.ErrFull
	}
	for len(w.tables[table]) < need {
		block, _ := w.take()
		w.tables[table] = append(w.tables[table], block)
	}
	return api.OK
}

func (w *world) trim(table, n int) api.Errno {
	if n < 0 {
		return api.ErrArg
	}
	for len(w.tables[table]) > w.need(n) {
		last := len(w.tables[table]) - 1
		w.hold(w.tables[table][last], -1)
		w.tables[table] = w.tables[table][:last]
	}
	return api.OK
}

func (w *world) own(table, pos int) api.Errno {
	if pos < 0 || pos/w.size >= len(w.tables[table]) {
		return api.ErrSlot
	}
	old := w.tables[table][pos/w.size]
	if w.count[old] == 0 {
		return api.ErrBlock
	}
	if w.count[old] == 1 {
		return api.OK
	}
	block, e := w.take()
	if e != api.OK {
		return e
	}
	var ms []api.Move
	for i := range w.size {
		ms = append(ms, api.Move{From: old*w.size + i, To: block*w.size + i})
	}
	w.move(ms)
	w.tables[table][pos/w.size] = block
	w.count[old]--
	return api.OK
}

// told is written as the other told writes what the calls tell.
func (w *world) told() string {
	out := fmt.Sprintf("%d layers, width %d, %d blocks of %d, %d left; counts", w.layers, w.width, w.blocks, w.size, w.left())
	for block := range w.blocks {
		out += fmt.Sprintf(" %d", w.count[block])
	}
	for slot := range w.blocks * w.size {
		for layer := range w.layers {
			if w.isSlot(slot) {
				out += fmt.Sprintf(" %s%s0", w.keys[[2]int{layer, slot}], w.values[[2]int{layer, slot}])
			} else {
				out += " [][]62"
			}
		}
	}
	for _, table := range w.tables {
		out += fmt.Sprintf("; %v", table)
		for pos := range len(table) * w.size {
			out += fmt.Sprintf(" %d/0", table[pos/w.size]*w.size+pos%w.size)
		}
		out += " 0/62"
	}
	return out
}

// some: a number near those from 0 to n, or one of the ends of all.
func some(s *testaid.Source, n int) int {
	switch s.Below(40) {
	case 0:
		return math.MinInt
	case 1:
		return math.MaxInt
	}
	return s.Below(n+3) - 1
}

// vector: one of width numbers; now and then of one more or one fewer.
func vector(s *testaid.Source, width int) []int8 {
	switch s.Below(30) {
	case 0:
		width++
	case 1:
		width--
	}
	return s.Narrow(width)
}

// act does one call, drawn, of the pool and of the world; it answers what both said.
func act(s *testaid.Source, p *pool.Pool, tables []*pool.Table, w *world) (what string, got, want []int) {
	block, table := some(s, w.blocks-1), s.Below(len(tables))
	switch s.Below(12) {
	case 0:
		b, e := p.Take()
		c, f := w.take()
		return "Take", []int{b, int(e)}, []int{c, int(f)}
	case 1:
		return fmt.Sprint("Hold ", block), []int{int(p.Hold(block))}, []int{int(w.hold(block, 1))}
	case 2, 3:
		return fmt.Sprint("Drop ", block), []int{int(p.Drop(block))}, []int{int(w.hold(block, -1))}
	case 4, 5, 6:
		layer, slot, k, v := some(s, w.layers-1), some(s, w.blocks*w.size-1), vector(s, w.width), vector(s, w.width)
		return fmt.Sprint("Put ", layer, slot, k, v), []int{int(p.Put(layer, slot, k, v))}, []int{int(w.put(layer, slot, k, v))}
	case 7:
		ms := make([]api.Move, s.Below(5))
		for i := range ms {
			ms[i] = api.Move{From: some(s, w.blocks*w.size-1), To: some(s, w.blocks*w.size-1)}
		}
		return fmt.Sprint("Move ", ms), []int{int(p.Move(ms...))}, []int{int(w.move(ms))}
	case 8:
		blocks := make([]int, s.Below(4))
		for i := range blocks {
			blocks[i] = some(s, w.blocks-1)
		}
		return fmt.Sprint("Share ", table, blocks), []int{int(tables[table].Share(blocks...))}, []int{int(w.share(table, blocks))}
	case 9:
		n := some(s, w.blocks*w.size)
		return fmt.Sprint("Grow ", table, n), []int{int(tables[table].Grow(n))}, []int{int(w.grow(table, n))}
	case 10:
		n := some(s, w.blocks*w.size)
		return fmt.Sprint("Trim ", table, n), []int{int(tables[table].Trim(n))}, []int{int(w.trim(table, n))}
	default:
		pos := some(s, w.blocks*w.size)
		return fmt.Sprint("Own ", table, pos), []int{int(tables[table].Own(pos))}, []int{int(w.own(table, pos))}
	}
}

// Calls of all kinds, right and wrong, one behind the other: behind each of them the pool and its tables tell what the chapter's words say.
func TestScripts(t *testing.T) {
	for seed := range 60 {
		s := testaid.Source(seed)
		layers, width, blocks, size := 1+s.Below(3), 1+s.Below(3), 1+s.Below(6), 1+s.Below(4)
		p := made(t, layers, width, blocks, size)
		w := newWorld(layers, width, blocks, size, 3)
		tables := []*pool.Table{pool.NewTable(p), pool.NewTable(p), pool.NewTable(p)}
		for step := range 400 {
			what, got, want := act(&s, p, tables, w)
			if !slices.Equal(got, want) {
				t.Fatalf("seed %d, step %d: %s: %v, want %v", seed, step, what, got, want)
			}
			if got, want := told(p, tables...), w.told(); got != want {
				t.Fatalf("seed %d, step %d: %s: told is\n%s, want\n%s", seed, step, what, got, want)
			}
		}
	}
}

// What follows: if every block is dropped just by those who hold it, the counts are how many do, and behind Own no Put is seen through another table.
func TestHonestHolders(t *testing.T) {
	s := testaid.Source(99)
	p := made(t, 2, 2, 8, 2)
	var tables []*pool.Table
	for range 4 {
		tables = append(tables, pool.NewTable(p))
	}
	for step := range 3000 {
		table := tables[s.Below(4)]
		n := s.Below(9)
		switch s.Below(4) {
		case 0:
			table.Share(tables[s.Below(4)].Blocks()...)
		case 1:
			table.Grow(n)
		case 2:
			table.Trim(n)
		case 3:
			ownAndPut(t, p, table, tables, n, &s)
		}
		held := map[int]int{}
		for _, table := range tables {
			for _, block := range table.Blocks() {
				held[block]++
			}
		}
		for block := range 8 {
			if p.Count(block) != held[block] {
				t.Fatalf("step %d: block %d counts %d, %d tables have it", step, block, p.Count(block), held[block])
			}
		}
		if p.Left() != 8-len(held) {
			t.Fatalf("step %d: %d left, %d in use", step, p.Left(), len(held))
		}
	}
}

// ownAndPut: behind Own the table reads as before, and a Put there is seen by it alone.
func ownAndPut(t *testing.T, p *pool.Pool, table *pool.Table, tables []*pool.Table, pos int, s *testaid.Source) {
	t.Helper()
	before := through(t, p, table)
	if table.Own(pos) != api.OK {
		return
	}
	if through(t, p, table) != before {
		t.Fatalf("P6.11: behind Own(%d) the table reads otherwise", pos)
	}
	others := func() string {
		out := ""
		for _, other := range tables {
			if other != table {
				out += through(t, p, other) + "\n"
			}
		}
		return out
	}
	was := others()
	slot, _ := table.Slot(pos)
	puts(t, p, s.Below(2), slot, s.Narrow(2), s.Narrow(2))
	if others() != was {
		t.Fatalf("P6.11: behind Own(%d) a Put is seen through another table", pos)
	}
}
