package tree

import (
	"iter"

	"augur/api"
)

// wordBits: so many places a word of a set tells of.
const wordBits = 64

// with: the set with one more place.
func with(set api.Bits, place int) api.Bits {
	set[place/wordBits] |= 1 << (place % wordBits)
	return set
}

// has: is the place in the set? (Then it adds nothing to it.)
func has(set api.Bits, place int) bool { return with(set, place) == set }

// leaves: the places of those nodes of a tree that are no node's parent, in their order.
func leaves(t []api.Node) iter.Seq[int] {
	var parents api.Bits
	for _, n := range t[1:] {
		parents = with(parents, n.Parent)
	}
	return func(yield func(int) bool) {
		for place := range t {
			if !has(parents, place) && !yield(place) {
				return
			}
		}
	}
}

// way: the places from the root's down to a node's own.
func way(t []api.Node, place int) []int {
	places := make([]int, t[place].Depth+1)
	for depth := t[place].Depth; depth >= 0; depth-- {
		places[depth] = place
		place = t[place].Parent
	}
	return places
}
