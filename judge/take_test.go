package judge_test

import (
	"math"
	"slices"
	"testing"

	"augur/api"
	"augur/testaid"
)

func TestTakeExamples(t *testing.T) {
	takes(t, five(), []int{0, 1, 3, 4}, 8, 9, []int{3, 4, 6, 8}, false)
	takes(t, five(), []int{0, 1, 3, 4}, 8, 4, []int{3, 4, 6, 8}, true)
	takes(t, five(), []int{0, 1, 3, 4}, 8, 2, []int{3, 4}, true)
	takes(t, five(), []int{0, 1}, 0, 9, []int{3, 0}, true)
	takesNot(t, five(), []int{0, 3}, 8, 9, api.ErrPath)
	takesNot(t, five(), []int{1}, 8, 9, api.ErrPath)
	takesNot(t, five(), nil, 8, 9, api.ErrPath)
	takesNot(t, five(), []int{0}, 8, 0, api.ErrArg)
}

// wrongMosts: below 1.
func wrongMosts() []int { return []int{0, -1, -2, -1 << 32, math.MinInt + 1, math.MinInt} }

// wrongWays: lists that are no way of the tree of the examples.
func wrongWays() [][]int {
	return [][]int{
		nil, {}, {1}, {2}, {4}, {-1}, {5}, {1, 3}, {1, 3, 4}, {2, 0, 1}, {math.MinInt}, {math.MaxInt}, // not from the root
		{0, 3}, {0, 4}, {0, 1, 4}, {0, 1, 2}, {0, 2, 1}, {0, 2, 3}, {0, 2, 4}, {0, 1, 3, 4, 1}, // no children
		{0, -1}, {0, 1, -1}, {0, 1, 3, 4, -1}, {0, math.MinInt}, {0, 5}, {0, 1, 5}, {0, 1, 3, 4, 5}, {0, 32}, {0, 64}, {0, math.MaxInt}, {0, 1, math.MaxInt}, // no places
		{0, 0}, {0, 1, 1}, {0, 1, 0}, {0, 1, 3, 3}, {0, 1, 3, 1}, {0, 1, 3, 4, 4}, {0, 0, 1}, {0, 1, 0, 1}, // twice
		{0, 1, 3, 4, 0}, {3, 1, 0}, {4, 3, 1, 0},
		append([]int{0, 1, 3, 4}, make([]int, 1<<20)...), make([]int, 1<<20),
	}
}

// What is no tree is told first, whatever is wrong beside it.
func TestTakeNoTree(t *testing.T) {
	for _, nodes := range noTrees() {
		for _, way := range append(wrongWays(), []int{0}, []int{0, 1}, []int{0, 1, 3, 4}) {
			for _, most := range append(wrongMosts(), 1, 9, math.MaxInt) {
				takesNot(t, nodes, way, 8, most, api.ErrTree)
			}
		}
	}
}

// What is no way is told ahead of a number that may not be.
func TestTakeNoWay(t *testing.T) {
	for _, way := range wrongWays() {
		for _, next := range []int{0, 8, -1} {
			for _, most := range append(wrongMosts(), 1, 2, 9, math.MaxInt) {
				takesNot(t, five(), way, next, most, api.ErrPath)
			}
		}
	}
	root := testaid.Nodes(-1, 7, 0)
	for _, way := range [][]int{nil, {}, {-1}, {1}, {0, 0}, {0, 1}, {0, -1}, {7}} {
		takesNot(t, root, way, 8, 9, api.ErrPath)
		takesNot(t, root, way, 8, 0, api.ErrPath)
	}
}

func TestTakeMostBelowOne(t *testing.T) {
	for _, most := range wrongMosts() {
		for _, way := range allWays(five()) {
			for _, next := range []int{0, 8, math.MinInt} {
				takesNot(t, five(), way, next, most, api.ErrArg)
			}
		}
		takesNot(t, testaid.Nodes(-1, 7, 0), []int{0}, 8, most, api.ErrArg)
	}
}

// All lists of up to four places, from below 0 to beyond the tree.
func TestTakeAllLists(t *testing.T) {
	lists := testaid.Lists(4, -1, 0, 1, 2, 3, 4)
	for _, nodes := range shortTrees(4) {
		for _, list := range lists {
			if !hasWay(nodes, list) {
				takesNot(t, nodes, list, 8, 3, api.ErrPath)
				takesNot(t, nodes, list, 8, 0, api.ErrPath)
				continue
			}
			takesNot(t, nodes, list, 8, 0, api.ErrArg)
			for most := 1; most < 7; most++ {
				takesAsWords(t, nodes, list, 8, most)
				takesAsWords(t, nodes, list, 0, most)
			}
		}
	}
}

// One of most, one less than there are tokens, as many, one more, the greatest: in chains of each length.
func TestTakeMost(t *testing.T) {
	for n := 1; n <= 32; n++ {
		nodes := testaid.Chain(n)
		var way, all []int
		for place := range n {
			way = append(way, place)
			if place > 0 {
				all = append(all, nodes[place].Token)
			}
		}
		all = append(all, -5)
		takes(t, nodes, way, -5, 1, all[:1], true)
		if n > 1 {
			takes(t, nodes, way, -5, n-1, all[:n-1], true)
		}
		takes(t, nodes, way, -5, n, all, true)
		takes(t, nodes, way, -5, n+1, all, false)
		takes(t, nodes, way, -5, 1<<32, all, false)
		takes(t, nodes, way, -5, math.MaxInt, all, false)
	}
}

// Over by End, by most, by both at one time, by neither.
func TestTakeOver(t *testing.T) {
	way := []int{0, 1, 3}
	takes(t, five(), way, 0, 9, []int{3, 4, 0}, true)
	takes(t, five(), way, 0, math.MaxInt, []int{3, 4, 0}, true)
	takes(t, five(), way, 8, 3, []int{3, 4, 8}, true)
	takes(t, five(), way, 0, 3, []int{3, 4, 0}, true)
	takes(t, five(), way, 8, 4, []int{3, 4, 8}, false)
	// End behind most is not told.
	takes(t, five(), way, 0, 2, []int{3, 4}, true)
	takes(t, five(), way, 0, 1, []int{3}, true)
	// Of the root alone.
	takes(t, five(), []int{0}, 0, 9, []int{0}, true)
	takes(t, five(), []int{0}, 0, 1, []int{0}, true)
	takes(t, five(), []int{0}, 8, 1, []int{8}, true)
	takes(t, five(), []int{0}, 8, 2, []int{8}, false)
}

// End at the root is left out and ends nothing; elsewhere in the nodes it makes them no tree.
func TestTakeEndWithin(t *testing.T) {
	nodes := testaid.Nodes(-1, 0, 0, 0, 3, 1, 1, 4, 2)
	takes(t, nodes, []int{0}, 8, 9, []int{8}, false)
	takes(t, nodes, []int{0, 1, 2}, 8, 9, []int{3, 4, 8}, false)
	takes(t, nodes, []int{0, 1, 2}, 0, 9, []int{3, 4, 0}, true)
	takes(t, nodes, []int{0, 1, 2}, 8, 2, []int{3, 4}, true)
	for place := 1; place < 5; place++ {
		ended := five()
		ended[place].Token = 0
		takesNot(t, ended, []int{0, 1, 3, 4}, 8, 9, api.ErrTree)
		takesNot(t, ended, []int{0}, 8, 9, api.ErrTree)
	}
}

// The next token is any number, and so is the root's; the others any above 0.
func TestTakeAnyNumbers(t *testing.T) {
	for _, x := range anyNumbers() {
		nodes := testaid.Nodes(-1, x, 0, 0, math.MaxInt, 1, 1, math.MaxInt, 2)
		for _, next := range anyNumbers() {
			takes(t, nodes, []int{0}, next, 9, []int{next}, next == 0)
			takes(t, nodes, []int{0, 1, 2}, next, 9, []int{math.MaxInt, math.MaxInt, next}, next == 0)
			takes(t, nodes, []int{0, 1}, next, 1, []int{math.MaxInt}, true)
		}
	}
}

// Whether the way is the judged one is not asked.
func TestTakeAnyWay(t *testing.T) {
	takes(t, five(), []int{0, 2}, 3, 9, []int{5, 3}, false)
	takes(t, five(), []int{0, 1}, 4, 9, []int{3, 4}, false) // next may be a child's token
	takes(t, five(), []int{0}, 3, 9, []int{3}, false)
	turned := testaid.Nodes(-1, 9, 0, 0, 1, 1, 0, 2, 1, 2, 4, 2, 1, 5, 2, 4, 6, 3, 3, 7, 3)
	takes(t, turned, []int{0, 2, 3, 6}, 8, 9, []int{2, 4, 7, 8}, false)
	takes(t, turned, []int{0, 1, 4, 5}, 8, 9, []int{1, 5, 6, 8}, false)
	takesNot(t, turned, []int{0, 1, 3, 6}, 8, 9, api.ErrPath)
	takesNot(t, turned, []int{0, 2, 4, 5}, 8, 9, api.ErrPath)
}

func TestTakeDrawn(t *testing.T) {
	s := testaid.Source(202)
	odd := anyNumbers()
	for range 5000 {
		nodes := someTree(&s)
		way := someWay(&s, nodes)
		takesAsWords(t, nodes, way, s.Below(4), 1+s.Below(len(way)+2))
		takesAsWords(t, nodes, way, odd[s.Below(len(odd))], 1+int(s.Next()))
		other := slices.Clone(way)
		other[s.Below(len(other))] = s.Below(len(nodes)+2) - 1
		if hasWay(nodes, other) {
			takesAsWords(t, nodes, other, 5, 5)
		} else {
			takesNot(t, nodes, other, 5, 5, api.ErrPath)
		}
		takesNot(t, nodes, way[1:], 5, 5, api.ErrPath)
		takesNot(t, nodes, append(slices.Clone(way), way[s.Below(len(way))]), 5, 5, api.ErrPath)
		if t.Failed() {
			t.FailNow()
		}
	}
}
