package pool_test

import (
	"fmt"
	"math"
	"slices"
	"testing"

	"augur/api"
	"augur/pool"
	"augur/testaid"
)

// apart: a pool of 3 layers, width 2, 5 blocks of 3 slots, of which block 1 (slots 3 to 5) and block 4 (slots 12 to 14) are free.
func apart(t *testing.T) *pool.Pool {
	t.Helper()
	p := made(t, 3, 2, 5, 3)
	takes(t, p, 0, 1, 2, 3, 4)
	s := testaid.Source(41)
	fill(t, p, &s)
	is(t, "P6.3: Drop", p.Drop(1), api.OK)
	is(t, "P6.3: Drop", p.Drop(4), api.OK)
	return p
}

// noSlots: numbers that are no slot in use of apart.
func noSlots() []int {
	return []int{math.MinInt, -7, -3, -2, -1, 3, 4, 5, 12, 13, 14, 15, 16, math.MaxInt}
}

// slots: those in use of apart.
func slots() []int { return []int{0, 1, 2, 6, 7, 8, 9, 10, 11} }

func TestPutAndGetWrong(t *testing.T) {
	p := apart(t)
	two := []int8{1, 2}
	// Whatever the vectors are, the layer and the slot are looked at first.
	lists := [][]int8{two, nil, {1}, {1, 2, 3}}
	wrong := func(layer, slot int) {
		t.Helper()
		for _, list := range lists {
			stays(t, fmt.Sprintf("P6.5: Put(%d, %d, %v)", layer, slot, list), func() api.Errno { return p.Put(layer, slot, list, two) }, api.ErrSlot, p)
			stays(t, fmt.Sprintf("P6.5: Put(%d, %d, .., %v)", layer, slot, list), func() api.Errno { return p.Put(layer, slot, two, list) }, api.ErrSlot, p)
		}
		if k, v, e := p.Get(layer, slot); len(k) != 0 || len(v) != 0 || e != api.ErrSlot {
			t.Errorf("P6.5: Get(%d, %d): %v, %v, %d", layer, slot, k, v, e)
		}
	}
	for _, layer := range []int{math.MinInt, -1, 3, 4, math.MaxInt} {
		wrong(layer, 0)
		wrong(layer, 3)
		wrong(layer, -1)
	}
	for _, slot := range noSlots() {
		wrong(0, slot)
		wrong(2, slot)
	}
	for _, list := range [][]int8{nil, {}, {1}, {1, 2, 3}, make([]int8, 100)} {
		for _, slot := range slots() {
			stays(t, fmt.Sprintf("P6.5: Put(0, %d, %v)", slot, list), func() api.Errno { return p.Put(0, slot, list, two) }, api.ErrShape, p)
			stays(t, fmt.Sprintf("P6.5: Put(2, %d, .., %v)", slot, list), func() api.Errno { return p.Put(2, slot, two, list) }, api.ErrShape, p)
			stays(t, fmt.Sprintf("P6.5: Put(1, %d, %v, %v)", slot, list, list), func() api.Errno { return p.Put(1, slot, list, list) }, api.ErrShape, p)
		}
	}
}

// One Put changes the vectors of one layer of one slot, and nothing else.
func TestPutOne(t *testing.T) {
	p := apart(t)
	type place struct{ layer, slot int }
	want := map[place][2][]int8{}
	for _, slot := range slots() {
		for layer := range 3 {
			k, v, _ := p.Get(layer, slot)
			want[place{layer, slot}] = [2][]int8{k, v}
		}
	}
	n := int8(-128)
	for _, slot := range slots() {
		for layer := range 3 {
			k, v := []int8{n, n + 1}, []int8{n + 2, n + 3}
			n += 4
			puts(t, p, layer, slot, k, v)
			want[place{layer, slot}] = [2][]int8{k, v}
			for at, both := range want {
				gets(t, "P6.5", p, at.layer, at.slot, both[0], both[1])
			}
		}
	}
}

// read: all layers' keys and values of a slot.
func read(t *testing.T, p *pool.Pool, slot int) string {
	t.Helper()
	layers, _, _, _ := p.Shape()
	out := ""
	for layer := range layers {
		k, v, e := p.Get(layer, slot)
		if e != api.OK {
			t.Fatalf("P6.5: Get(%d, %d): %d", layer, slot, e)
		}
		out += fmt.Sprint(k, v)
	}
	return out
}

// moves: the slots of apart behind a Move, by the chapter's words, are what they are.
func moves(t *testing.T, p *pool.Pool, ms ...api.Move) {
	t.Helper()
	was := map[int]string{}
	for _, slot := range slots() {
		was[slot] = read(t, p, slot)
	}
	want := map[int]string{}
	for slot, numbers := range was {
		want[slot] = numbers
	}
	for _, m := range ms {
		want[m.To] = was[m.From]
	}
	is(t, fmt.Sprint("P6.6: Move ", ms), p.Move(ms...), api.OK)
	for slot, numbers := range want {
		if got := read(t, p, slot); got != numbers {
			t.Errorf("P6.6: Move %v: slot %d: %s, want %s", ms, slot, got, numbers)
		}
	}
}

func TestMove(t *testing.T) {
	for _, ms := range [][]api.Move{
		nil,
		{},
		{{From: 0, To: 0}},
		{{From: 0, To: 11}},
		{{From: 11, To: 0}},
		{{From: 0, To: 1}, {From: 1, To: 0}},
		{{From: 0, To: 1}, {From: 1, To: 2}, {From: 2, To: 6}, {From: 6, To: 0}},
		{{From: 6, To: 0}, {From: 2, To: 6}, {From: 1, To: 2}, {From: 0, To: 1}},
		{{From: 0, To: 1}, {From: 1, To: 2}, {From: 2, To: 6}},
		{{From: 7, To: 0}, {From: 7, To: 1}, {From: 7, To: 7}, {From: 7, To: 11}},
		{{From: 9, To: 10}, {From: 10, To: 10 - 1}, {From: 9, To: 8}, {From: 8, To: 8 - 1}, {From: 0, To: 0}},
	} {
		p := apart(t)
		moves(t, p, ms...)
	}
	s := testaid.Source(8)
	p := apart(t)
	for range 500 {
		var ms []api.Move
		for _, to := range slots() {
			if s.Below(3) > 0 {
				ms = append(ms, api.Move{From: slots()[s.Below(9)], To: to})
			}
		}
		shuffle(&s, ms)
		moves(t, p, ms...)
		fill(t, p, &s)
	}
}

func shuffle[T any](s *testaid.Source, x []T) {
	for i := range x {
		j := s.Below(i + 1)
		x[i], x[j] = x[j], x[i]
	}
}

func TestMoveWrong(t *testing.T) {
	p := apart(t)
	good := []api.Move{{From: 0, To: 1}, {From: 1, To: 6}, {From: 7, To: 8}}
	var wrong []api.Move
	for _, slot := range noSlots() {
		wrong = append(wrong, api.Move{From: slot, To: 11}, api.Move{From: 11, To: slot}, api.Move{From: slot, To: slot})
	}
	// A To that stands there twice, also where the Froms are the same, or the To itself.
	for _, m := range good {
		wrong = append(wrong, m, api.Move{From: 9, To: m.To}, api.Move{From: m.To, To: m.To})
	}
	for _, m := range wrong {
		for at := range len(good) + 1 {
			ms := slices.Insert(slices.Clone(good), at, m)
			stays(t, fmt.Sprint("P6.6: Move ", ms), func() api.Errno { return p.Move(ms...) }, api.ErrSlot, p)
		}
	}
	stays(t, "P6.6: Move from nowhere", func() api.Errno { return p.Move(api.Move{From: -1, To: 0}) }, api.ErrSlot, p)
	many := slices.Repeat([]api.Move{{From: 0, To: 1}}, 100000)
	stays(t, "P6.6: Move of many", func() api.Errno { return p.Move(many...) }, api.ErrSlot, p)
}

// What follows: by a way round, and then by its inverse, nothing changes.
func TestMoveAndBack(t *testing.T) {
	s := testaid.Source(77)
	for range 200 {
		p := apart(t)
		before := told(p)
		to := slots()
		shuffle(&s, to)
		var there, back []api.Move
		for i, from := range slots() {
			there = append(there, api.Move{From: from, To: to[i]})
			back = append(back, api.Move{From: to[i], To: from})
		}
		shuffle(&s, there)
		shuffle(&s, back)
		moves(t, p, there...)
		moves(t, p, back...)
		if told(p) != before {
			t.Fatalf("Move %v and back changed something", there)
		}
	}
}
