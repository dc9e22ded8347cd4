package pool

import (
	"slices"

	"augur/api"
)

// Table: the blocks of one request, position by position.
type Table struct {
	list
	pool *Pool
}

// NewTable: without blocks.
func NewTable(p *Pool) *Table {
	if p == nil {
		return nil
	}
	return &Table{list: list{size: p.size}, pool: p}
}

// Share: a table without blocks begins with these, each held once more.
func (t *Table) Share(blocks ...int) api.Errno {
	if t == nil || !t.isEmpty() {
		return api.ErrArg
	}
	if !t.pool.mayShare(blocks) {
		return api.ErrBlock
	}
	for _, block := range blocks {
		t.pool.Hold(block)
		t.push(block)
	}
	return api.OK
}

// mayShare: all blocks are in use, and none stands there twice.
func (p *Pool) mayShare(blocks []int) bool {
	named := make([]bool, len(p.counts))
	for _, block := range blocks {
		if p.Count(block) == 0 || named[block] {
			return false
		}
		named[block] = true
	}
	return true
}

// Grow: blocks enough for n positions.
func (t *Table) Grow(n int) api.Errno {
	if t == nil || n < 0 {
		return api.ErrArg
	}
	lacking := t.lacking(n)
	if lacking > t.pool.Left() {
		return api.ErrFull
	}
	for range lacking {
		block, _ := t.pool.Take()
		t.push(block)
	}
	return api.OK
}

// Trim: no more blocks than n positions need.
func (t *Table) Trim(n int) api.Errno {
	if t == nil || n < 0 {
		return api.ErrArg
	}
	for t.lacking(n) < 0 {
		// A block that somebody else dropped may be free by now: Drop then does nothing, and that is all right here.
		t.pool.Drop(t.pop())
	}
	return api.OK
}

// Own: the block of a position is held by this table alone: a copy takes its place if it is not.
func (t *Table) Own(pos int) api.Errno {
	if t == nil {
		return api.ErrArg
	}
	if !t.reaches(pos) {
		return api.ErrSlot
	}
	old := t.at(pos)
	switch t.pool.Count(old) {
	case 0:
		return api.ErrBlock
	case 1:
		return api.OK
	}
	own, e := t.pool.Take()
	if e != api.OK {
		return e
	}
	copy(t.pool.block(own), t.pool.block(old))
	t.set(pos, own)
	return t.pool.Drop(old)
}

// Slot: the slot of a position.
func (t *Table) Slot(pos int) (int, api.Errno) {
	if t == nil {
		return 0, api.ErrArg
	}
	if !t.reaches(pos) {
		return 0, api.ErrSlot
	}
	return t.at(pos)*t.size + pos%t.size, api.OK
}

// Blocks: its blocks.
func (t *Table) Blocks() []int {
	if t == nil {
		return nil
	}
	return slices.Clone(t.blocks)
}
