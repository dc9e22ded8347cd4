package xform

import "augur/api"

// store: where keys and values stand, layer by layer and slot by slot: a pool, or the points of a text.
type store interface {
	Put(layer, slot int, k, v []int8) api.Errno
	Get(layer, slot int) (k, v []int8, e api.Errno)
}

// points: what Full answers; while it is made each place of the text is a slot.
type points []api.Point

func newPoints(n, layers int) points {
	all := make(points, n)
	for p := range all {
		all[p].K, all[p].V = make([][]int8, layers), make([][]int8, layers)
	}
	return all
}

// Put keeps the vectors themselves: nobody else has them.
func (all points) Put(layer, slot int, k, v []int8) api.Errno {
	all[slot].K[layer], all[slot].V[layer] = k, v
	return api.OK
}

// Get: what was put.
func (all points) Get(layer, slot int) (k, v []int8, e api.Errno) {
	return all[slot].K[layer], all[slot].V[layer], api.OK
}
