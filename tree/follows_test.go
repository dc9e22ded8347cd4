package tree_test

import (
	"math/bits"
	"slices"
	"testing"

	"augur/api"
	"augur/testaid"
	"augur/tree"
)

// asRaw: a tree's nodes but the root as a raw tree, their parents' places less one.
func asRaw(t []api.Node) []api.RawNode {
	var out []api.RawNode
	for _, n := range t[1:] {
		out = append(out, api.RawNode{Parent: n.Parent - 1, Token: n.Token})
	}
	return out
}

// wayTokens: the ways of a tree's nodes, the root's among them, as tokens.
func wayTokens(t []api.Node) [][]int {
	var out [][]int
	for place := range t {
		var way []int
		for _, p := range placesTo(t, place)[1:] {
			way = append(way, t[p].Token)
		}
		out = append(out, way)
	}
	return out
}

func TestCleanIsItsOwnClean(t *testing.T) {
	s := testaid.Source(165)
	for range 2000 {
		vocab := s.Below(12)
		got, e := tree.Clean(s.Below(9), someRaw(&s, s.Below(97), vocab), vocab)
		if e != api.OK || tree.Check(got) != api.OK || !isTree(got) {
			t.Fatalf("what follows: %v, %d is no tree", got, e)
		}
		cleans(t, got[0].Token, asRaw(got), vocab, got)
	}
	for range 500 {
		some := someTree(&s, 1+s.Below(32))
		cleans(t, some[0].Token, asRaw(some), 1000, some)
	}
}

func TestCleanOfJoin(t *testing.T) {
	s := testaid.Source(166)
	held := 0
	for range 3000 {
		vocab := s.Below(5)
		var lists [][]api.RawNode
		var all [][]int
		for range s.Below(5) {
			list := someRaw(&s, s.Below(15), vocab)
			lists = append(lists, list)
			own, _ := tree.Clean(3, list, vocab)
			for _, way := range wayTokens(own) {
				if placeOf(all, way) < 0 {
					all = append(all, way)
				}
			}
		}
		if len(all) > 32 {
			continue
		}
		held++
		got, e := tree.Clean(3, tree.Join(lists...), vocab)
		ways := wayTokens(got)
		if e != api.OK || len(lists) > 0 && len(ways) != len(all) || len(lists) == 0 && len(ways) != 1 {
			t.Fatalf("what follows: of %v: %v, %d, want the ways %v", lists, got, e, all)
		}
		for _, way := range all {
			if placeOf(ways, way) < 0 {
				t.Fatalf("what follows: of %v: %v has no way %v", lists, got, way)
			}
		}
	}
	if held < 1000 {
		t.Errorf("only %d times no more than there may be", held)
	}
}

func TestSetsOfNodes(t *testing.T) {
	s := testaid.Source(167)
	for range 1000 {
		some := someTree(&s, 1+s.Below(32))
		sets, e := tree.Above(some)
		if e != api.OK || len(sets) != len(some) {
			t.Fatalf("P14.5: Above(%v) = %v, %d", some, sets, e)
		}
		for place, set := range sets {
			var upper uint64
			if place > 0 {
				upper = sets[some[place].Parent][0]
			}
			if bits.OnesCount64(set[0]) != some[place].Depth+1 || upper&(1<<place) != 0 || set[0] != upper|1<<place {
				t.Fatalf("what follows: %v: the set of %d is %b, its parent's %b", some, place, set[0], upper)
			}
		}
		onWays := make([]int, len(some))
		for way := range tree.Paths(some) {
			leaf := way[len(way)-1]
			for _, place := range way {
				onWays[place]++
				if sets[leaf][0]&(1<<place) == 0 {
					t.Fatalf("P14.6: %v: place %d of %v is not in the leaf's set", some, place, way)
				}
			}
		}
		if slices.Contains(onWays, 0) {
			t.Fatalf("what follows: %v: so many leaves behind each node: %v", some, onWays)
		}
	}
}
