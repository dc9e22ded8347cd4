package pool

import "augur/api"

// Put: a slot's keys and values of a layer.
func (p *Pool) Put(layer, slot int, k, v []int8) api.Errno {
	if p == nil {
		return api.ErrArg
	}
	if !p.hasLayer(layer) || !p.usesSlot(slot) {
		return api.ErrSlot
	}
	if len(k) != p.width || len(v) != p.width {
		return api.ErrShape
	}
	keys, values := p.vectors(layer, slot)
	copy(keys, k)
	copy(values, v)
	return api.OK
}

// Get: likewise read.
func (p *Pool) Get(layer, slot int) (k, v []int8, e api.Errno) {
	if p == nil {
		return nil, nil, api.ErrArg
	}
	if !p.hasLayer(layer) || !p.usesSlot(slot) {
		return nil, nil, api.ErrSlot
	}
	keys, values := p.vectors(layer, slot)
	k, v = make([]int8, p.width), make([]int8, p.width)
	copy(k, keys)
	copy(v, values)
	return k, v, api.OK
}

// Move: all layers of slots, as if all were read ahead of all writing.
func (p *Pool) Move(ms ...api.Move) api.Errno {
	if p == nil {
		return api.ErrArg
	}
	if !p.mayMove(ms) {
		return api.ErrSlot
	}
	n := p.ofSlot()
	read := make([]int8, len(ms)*n)
	for i, m := range ms {
		copy(read[i*n:], p.slot(m.From))
	}
	for i, m := range ms {
		copy(p.slot(m.To), read[i*n:])
	}
	return api.OK
}

// mayMove: all slots are in use, and none is written twice.
func (p *Pool) mayMove(ms []api.Move) bool {
	written := make([]bool, len(p.counts)*p.size)
	for _, m := range ms {
		if !p.usesSlot(m.From) || !p.usesSlot(m.To) || written[m.To] {
			return false
		}
		written[m.To] = true
	}
	return true
}

func (p *Pool) hasLayer(layer int) bool { return 0 <= layer && layer < p.layers }

func (p *Pool) usesSlot(slot int) bool { return slot >= 0 && p.Count(slot/p.size) > 0 }

// ofSlot: how many numbers a slot has.
func (p *Pool) ofSlot() int { return p.layers * 2 * p.width }

// slot: all numbers of a slot that there is.
func (p *Pool) slot(slot int) []int8 {
	n := p.ofSlot()
	return p.numbers[slot*n : slot*n+n]
}

// vectors: where the pool keeps the keys and the values of a layer of a slot.
func (p *Pool) vectors(layer, slot int) (keys, values []int8) {
	both := p.slot(slot)[layer*2*p.width:]
	return both[:p.width], both[p.width : 2*p.width]
}
