package tree_test

import (
	"math"
	"slices"
	"testing"

	"augur/api"
	"augur/testaid"
	"augur/tree"
)

// The chapter's words, said a second time: each word by itself, looking everywhere.

// good: is the raw node at that place?
func good(raw []api.RawNode, place, vocab int) bool {
	n := raw[place]
	if n.Token < 1 || n.Token > vocab-1 || vocab < 2 {
		return false
	}
	return n.Parent == -1 || n.Parent >= 0 && n.Parent < place && good(raw, n.Parent, vocab)
}

// tokensTo: the way of a good raw node.
func tokensTo(raw []api.RawNode, place int) []int {
	if place == -1 {
		return nil
	}
	return append(tokensTo(raw, raw[place].Parent), raw[place].Token)
}

// goodWays: the ways that good raw nodes have, each once, in the order in which they first come.
func goodWays(raw []api.RawNode, vocab int) [][]int {
	var ways [][]int
	for place := range raw {
		if !good(raw, place, vocab) {
			continue
		}
		if way := tokensTo(raw, place); placeOf(ways, way) < 0 {
			ways = append(ways, way)
		}
	}
	return ways
}

// placeOf: where the way stands in a list of ways; -1, if nowhere.
func placeOf(ways [][]int, way []int) int {
	return slices.IndexFunc(ways, func(w []int) bool { return slices.Equal(w, way) })
}

// cleaned: what Clean is to answer of a raw tree that is not too long.
func cleaned(root int, raw []api.RawNode, vocab int) []api.Node {
	found := goodWays(raw, vocab)
	ways := [][]int{{}}
	for depth := 1; depth <= len(raw); depth++ {
		for _, way := range found {
			if len(way) == depth {
				ways = append(ways, way)
			}
		}
	}
	nodes := []api.Node{{Parent: -1, Token: root, Depth: 0}}
	for _, way := range ways[1:min(len(ways), 32)] {
		last := len(way) - 1
		nodes = append(nodes, api.Node{Parent: placeOf(ways, way[:last]), Token: way[last], Depth: len(way)})
	}
	return nodes
}

// isTree: what Check is to tell.
func isTree(t []api.Node) bool {
	if len(t) == 0 || len(t) > 32 {
		return false
	}
	if t[0].Parent != -1 || t[0].Depth != 0 {
		return false
	}
	for a := range t {
		if a == 0 {
			continue
		}
		if t[a].Parent < 0 || t[a].Parent >= a || t[a].Depth != t[t[a].Parent].Depth+1 || t[a].Token <= 0 || t[a].Depth < t[a-1].Depth {
			return false
		}
		for b := range a {
			if b > 0 && t[a].Parent == t[b].Parent && t[a].Token == t[b].Token {
				return false
			}
		}
	}
	return true
}

// placesTo: the way of a tree's node, as places.
func placesTo(t []api.Node, place int) []int {
	if place == -1 {
		return nil
	}
	return append(placesTo(t, t[place].Parent), place)
}

// sets: what Above is to answer of a tree.
func sets(t []api.Node) []api.Bits {
	out := make([]api.Bits, len(t))
	for a := range t {
		for _, place := range placesTo(t, a) {
			out[a][place/64] += 1 << (place % 64)
		}
	}
	return out
}

// leafWays: what Paths is to give of a tree.
func leafWays(t []api.Node) [][]int {
	var out [][]int
	for a := range t {
		if !slices.ContainsFunc(t, func(n api.Node) bool { return n.Parent == a }) {
			out = append(out, placesTo(t, a))
		}
	}
	return out
}

// raws: raw nodes of a list of parents and tokens, one behind the other.
func raws(numbers ...int) []api.RawNode {
	var out []api.RawNode
	for i := 0; i < len(numbers); i += 2 {
		out = append(out, api.RawNode{Parent: numbers[i], Token: numbers[i+1]})
	}
	return out
}

// second: the second example's tree.
func second() []api.Node { return testaid.Nodes(-1, 7, 0, 0, 3, 1, 0, 5, 1, 1, 4, 2, 3, 6, 3) }

// someTree: a tree of so many nodes, drawn: of each further one the parent is drawn among those whose children may still come.
func someTree(s *testaid.Source, n int) []api.Node {
	out := []api.Node{{Parent: -1, Token: s.Below(9) - 4}}
	low := 0 // the parents behind never fall: nor do the depths
	for len(out) < n {
		low += s.Below(min(3, len(out)-low))
		out = append(out, api.Node{Parent: low, Token: len(out) + s.Below(2)*100, Depth: out[low].Depth + 1})
	}
	for i := range out { // parents of one depth in any order
		j := s.Below(len(out))
		if i > 0 && j > 0 && out[i].Depth == out[j].Depth {
			out[i].Parent, out[j].Parent = out[j].Parent, out[i].Parent
		}
	}
	return out
}

// someRaw: so many raw nodes, drawn: some parents that may not be, tokens from below 0 to above the vocabulary, few of them, so that many are alike.
func someRaw(s *testaid.Source, n, vocab int) []api.RawNode {
	odd := []int{-2, math.MinInt, math.MaxInt}
	out := make([]api.RawNode, n)
	for i := range out {
		out[i] = api.RawNode{Parent: s.Below(i+1) - 1, Token: 1 + s.Below(max(vocab-1, 1))}
		switch s.Below(24) {
		case 0:
			out[i].Parent = i + s.Below(3)
		case 1:
			out[i].Parent = odd[s.Below(len(odd))]
		case 2:
			out[i].Token = s.Below(vocab+4) - 2
		case 3, 4, 5, 6:
			out[i].Parent = i - 1
		}
	}
	return out
}

// cleans: Clean answers that tree.
func cleans(t *testing.T, root int, raw []api.RawNode, vocab int, want []api.Node) {
	t.Helper()
	if got, e := tree.Clean(root, raw, vocab); e != api.OK || !slices.Equal(got, want) {
		t.Errorf("P14.1: Clean(%d, %v, %d) = %v, %d, want %v", root, raw, vocab, got, e, want)
	}
}

// isOne: Check, Cut, Above and Paths tell of a tree what the words say.
func isOne(t *testing.T, nodes []api.Node) {
	t.Helper()
	if e := tree.Check(nodes); e != api.OK {
		t.Errorf("P14.3: Check(%v) = %d", nodes, e)
	}
	for _, most := range []int{math.MinInt, -1, 0} {
		if got, e := tree.Cut(nodes, most); e != api.ErrArg || len(got) != 0 {
			t.Errorf("P14.4: Cut(%v, %d) = %v, %d", nodes, most, got, e)
		}
	}
	for _, most := range []int{1, 2, len(nodes) - 1, len(nodes), len(nodes) + 1, 33, math.MaxInt} {
		if most < 1 {
			continue
		}
		if got, e := tree.Cut(nodes, most); e != api.OK || !slices.Equal(got, nodes[:min(most, len(nodes))]) || !isTree(got) {
			t.Errorf("P14.4: Cut(%v, %d) = %v, %d", nodes, most, got, e)
		}
	}
	if got, e := tree.Above(nodes); e != api.OK || !slices.Equal(got, sets(nodes)) {
		t.Errorf("P14.5: Above(%v) = %v, %d, want %v", nodes, got, e, sets(nodes))
	}
	if got := slices.Collect(tree.Paths(nodes)); !sameWays(got, leafWays(nodes)) {
		t.Errorf("P14.6: the ways of %v are %v, want %v", nodes, got, leafWays(nodes))
	}
}

// isNone: Check, Cut, Above and Paths tell that it is no tree.
func isNone(t *testing.T, nodes []api.Node) {
	t.Helper()
	if e := tree.Check(nodes); e != api.ErrTree {
		t.Errorf("P14.3: Check(%v) = %d", nodes, e)
	}
	for _, most := range []int{math.MinInt, -1, 0, 1, 2, 32, math.MaxInt} {
		if got, e := tree.Cut(nodes, most); e != api.ErrTree || len(got) != 0 {
			t.Errorf("P14.4: Cut(%v, %d) = %v, %d", nodes, most, got, e)
		}
	}
	if got, e := tree.Above(nodes); e != api.ErrTree || len(got) != 0 {
		t.Errorf("P14.5: Above(%v) = %v, %d", nodes, got, e)
	}
	all := tree.Paths(nodes)
	for range 2 {
		for way := range all {
			t.Errorf("P14.6: %v is no tree, and has the way %v", nodes, way)
		}
	}
}

// sameWays: are two lists of ways the same?
func sameWays(a, b [][]int) bool { return slices.EqualFunc(a, b, slices.Equal) }
