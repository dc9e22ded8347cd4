package xform

import (
	"slices"

	"augur/api"
	"augur/fix"
	"augur/tensor"
)

// The places of a layer's products in its shifts.
const (
	byQ = iota
	byK
	byV
	byO
	byG
	byU
	byD
)

const (
	embedScale = 256
	gateShift  = 7
)

// walker: an item's token on its way through the layers.
type walker struct {
	slot int
	// seen: the slots that it looks at, each once, its own among them.
	seen []int
	// turns: its position's.
	turns []api.Turn
	x     []int64
	// What the steps of a layer leave for the next ones: x brought to one size, what is held against the keys, what was found among the values.
	level, query, found []int8
}

// stack: the layers, and those who are on their way through them.
type stack struct {
	weights api.Weights
	store   store
	walkers []*walker
	// room: one more than the last slot that somebody sees.
	room int
	// steps: those of a layer, as the chapter numbers them. Each is done for all walkers ahead of the next one: so all keys and values stand in their slots ahead of anything that is seen.
	steps []func(layer int)
}

// lastVectors: what the layers make of items that may be, in their order; their keys and values are in the store.
func lastVectors(w api.Weights, to store, items []api.Item) [][]int8 {
	s := newStack(w, to, items)
	for layer := range w.Layers {
		for _, step := range s.steps {
			step(layer)
		}
	}
	out := make([][]int8, len(items))
	for i, on := range s.walkers {
		out[i], _ = tensor.Norm(on.x, w.Final)
	}
	return out
}

func newStack(w api.Weights, to store, items []api.Item) *stack {
	s := &stack{weights: w, store: to}
	s.steps = []func(int){s.bringLevel, s.project, s.look, s.takeFound, s.takeHidden}
	// The turns of a position do not hang on how many positions there are.
	turns, _ := tensor.Turns(w.Turns, w.Config.Len)
	for _, item := range items {
		on := &walker{slot: item.Slot, seen: seenBy(item), turns: turns[item.Pos], x: embedded(w.Embed, item.Token)}
		s.walkers = append(s.walkers, on)
		s.room = max(s.room, slices.Max(on.seen)+1)
	}
	return s
}

// seenBy: the slots that an item sees, each once.
func seenBy(item api.Item) []int {
	slots := append(slices.Clone(item.See), item.Slot)
	slices.Sort(slots)
	return slices.Compact(slots)
}

func embedded(m api.Mat, token int) []int64 {
	x := make([]int64, m.Cols)
	for i, n := range row(m, token) {
		x[i] = embedScale * int64(n)
	}
	return x
}

func row(m api.Mat, r int) []int8 { return m.Data[r*m.Cols : r*m.Cols+m.Cols] }

// bringLevel: each walker's numbers, brought to one size.
func (s *stack) bringLevel(layer int) {
	for _, on := range s.walkers {
		on.level, _ = tensor.Norm(on.x, s.weights.Layers[layer].Norm1)
	}
}

// project: what each walker asks, and its key and value, which go to its slot.
func (s *stack) project(layer int) {
	l := s.weights.Layers[layer]
	for _, on := range s.walkers {
		on.query = turned(product(l.Q, on.level, l.By[byQ]), on.turns)
		key := turned(product(l.K, on.level, l.By[byK]), on.turns)
		s.store.Put(layer, on.slot, key, product(l.V, on.level, l.By[byV]))
	}
}

// look: what each walker finds in the slots that it sees, head by head.
func (s *stack) look(layer int) {
	c := s.weights.Config
	size := headSize(c)
	keys, values := s.read(layer)
	for _, on := range s.walkers {
		on.found = nil
		for h := range c.Heads {
			g := h * c.KV / c.Heads
			part := blended(head(on.query, h, size), heads(keys, on.seen, g, size), heads(values, on.seen, g, size))
			on.found = append(on.found, part...)
		}
	}
}

// read: by slot the keys and values of a layer that somebody sees. Many see the same ones: so each is read once.
func (s *stack) read(layer int) (keys, values [][]int8) {
	keys, values = make([][]int8, s.room), make([][]int8, s.room)
	for _, on := range s.walkers {
		for _, slot := range on.seen {
			if keys[slot] == nil {
				keys[slot], values[slot], _ = s.store.Get(layer, slot)
			}
		}
	}
	return keys, values
}

// blended: the values, by how well their keys fit the query.
func blended(query []int8, keys, values [][]int8) []int8 {
	scores := make([]int64, len(keys))
	for i, key := range keys {
		scores[i], _ = tensor.Dot(query, key)
	}
	weights, _ := tensor.Softmax(scores)
	out, _ := tensor.Blend(weights, values)
	return out
}

// takeFound: to each walker comes what it found.
func (s *stack) takeFound(layer int) {
	l := s.weights.Layers[layer]
	for _, on := range s.walkers {
		on.add(l.O, on.found, l.By[byO])
	}
}

// takeHidden: to each walker comes what the hidden numbers make of it.
func (s *stack) takeHidden(layer int) {
	l := s.weights.Layers[layer]
	for _, on := range s.walkers {
		b, _ := tensor.Norm(on.x, l.Norm2)
		gates, _ := tensor.MatVec(l.G, b)
		hidden := product(l.U, b, l.By[byU])
		for i, y := range gates {
			gate := fix.Silu(fix.Shift(y, l.By[byG]))
			hidden[i] = fix.Clamp8(fix.Shift(gate*int64(hidden[i]), gateShift))
		}
		on.add(l.D, hidden, l.By[byD])
	}
}

// add: to x comes the matrix times v, shifted.
func (on *walker) add(m api.Mat, v []int8, by int) {
	more, _ := tensor.MatVec(m, v)
	for i, n := range more {
		on.x[i] += fix.Shift(n, by)
	}
}

// product: the matrix times v, shifted and narrow.
func product(m api.Mat, v []int8, by int) []int8 {
	wide, _ := tensor.MatVec(m, v)
	out, _ := tensor.Narrow(wide, by)
	return out
}

// turned: each head of v, rotated.
func turned(v []int8, turns []api.Turn) []int8 {
	size := 2 * len(turns)
	out := make([]int8, 0, len(v))
	for h := range len(v) / size {
		part, _ := tensor.Rotate(head(v, h, size), turns)
		out = append(out, part...)
	}
	return out
}

func head(v []int8, h, size int) []int8 { return v[h*size : h*size+size] }

// heads: the head h of the vectors in these slots.
func heads(vectors [][]int8, slots []int, h, size int) [][]int8 {
	out := make([][]int8, len(slots))
	for i, slot := range slots {
		out[i] = head(vectors[slot], h, size)
	}
	return out
}
