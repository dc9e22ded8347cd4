package judge_test

import (
	"math"
	"slices"
	"testing"

	"augur/api"
	"augur/testaid"
)

func TestWalkExamples(t *testing.T) {
	walks(t, five(), []int{3, 4, 9, 6, 8}, []int{0, 1, 3, 4}, 8)
	walks(t, five(), []int{5, 4, 9, 6, 8}, []int{0, 2}, 9)
	walks(t, five(), []int{4, 4, 4, 4, 4}, []int{0}, 4)
	walksNot(t, five(), []int{3, 4, 9, 6}, api.ErrPath)
}

// What is no tree is told, whatever the choices are, and ahead of how many they are.
func TestWalkNoTree(t *testing.T) {
	for _, nodes := range noTrees() {
		for _, n := range []int{0, 1, len(nodes) - 1, len(nodes), len(nodes) + 1, 32, 1000} {
			walksNot(t, nodes, make([]int, max(n, 0)), api.ErrTree)
			walksNot(t, nodes, slices.Repeat([]int{3}, max(n, 0)), api.ErrTree)
		}
		walksNot(t, nodes, nil, api.ErrTree)
	}
}

func TestWalkHowManyChoices(t *testing.T) {
	for n := 1; n <= 32; n++ {
		for _, nodes := range [][]api.Node{testaid.Chain(n), testaid.Star(n)} {
			for many := range 66 {
				if many != n {
					walksNot(t, nodes, slices.Repeat([]int{1}, many), api.ErrPath)
				}
			}
			walksNot(t, nodes, nil, api.ErrPath)
			walksNot(t, nodes, make([]int, 1<<16+n), api.ErrPath)
			walksAsWords(t, nodes, slices.Repeat([]int{1}, n))
		}
	}
	// Also where those that there are would do, or the ones behind count for nothing.
	walksNot(t, five(), []int{9}, api.ErrPath)
	walksNot(t, five(), []int{3, 4, 9, 6, 8, 8}, api.ErrPath)
	walksNot(t, testaid.Nodes(-1, 7, 0), nil, api.ErrPath)
	walksNot(t, testaid.Nodes(-1, 7, 0), []int{7, 7}, api.ErrPath)
}

// Behind a root alone anything may be chosen, its own token too.
func TestWalkRootAlone(t *testing.T) {
	for _, token := range anyNumbers() {
		for _, next := range anyNumbers() {
			walks(t, testaid.Nodes(-1, token, 0), []int{next}, []int{0}, next)
		}
	}
}

// Choices are any numbers, at each place: those that count, and those that do not.
func TestWalkAnyNumbers(t *testing.T) {
	for _, x := range anyNumbers() {
		walks(t, five(), []int{x, 4, 9, 6, 8}, []int{0}, x)
		walks(t, five(), []int{3, x, 9, 6, 8}, []int{0, 1}, x)
		walks(t, five(), []int{3, 4, x, 6, 8}, []int{0, 1, 3, 4}, 8)
		walks(t, five(), []int{3, 4, 9, x, 8}, []int{0, 1, 3}, x)
		walks(t, five(), []int{3, 4, 9, 6, x}, []int{0, 1, 3, 4}, x)
		walks(t, five(), []int{5, x, x, x, x}, []int{0, 2}, x)
		walks(t, five(), []int{x, x, x, x, x}, []int{0}, x)
	}
	// Tokens of a tree are any numbers above 0, and alike in all bits or not alike.
	great := testaid.Nodes(-1, math.MinInt, 0, 0, math.MaxInt, 1, 0, 3, 1, 1, math.MaxInt-1, 2, 2, 1<<32+3, 2)
	walks(t, great, []int{math.MaxInt, math.MaxInt - 1, 0, math.MinInt, 0}, []int{0, 1, 3}, math.MinInt)
	walks(t, great, []int{3, 0, 3, 0, 0}, []int{0, 2}, 3)
	walks(t, great, []int{3, 0, 1<<32 + 3, 0, -9}, []int{0, 2, 4}, -9)
	walks(t, great, []int{1<<32 + 3, 0, 0, 0, 0}, []int{0}, 1<<32+3)
}

// End and numbers below 0 are chosen, but never stand in a tree but at its root, which is behind no node.
func TestWalkRootsToken(t *testing.T) {
	for _, token := range anyNumbers() {
		nodes := testaid.Nodes(-1, token, 0, 0, 3, 1, 1, 3, 2)
		walks(t, nodes, []int{3, 3, 3}, []int{0, 1, 2}, 3)
		walks(t, nodes, []int{3, token, 3}, []int{0, 1}, token)
		walks(t, nodes, []int{token, token, token}, []int{0}, token)
	}
	walks(t, testaid.Nodes(-1, 3, 0, 0, 3, 1, 1, 3, 2), []int{3, 4, 3}, []int{0, 1}, 4)
}

// A chosen token that stands in the tree, but not behind this node.
func TestWalkElsewhere(t *testing.T) {
	// The root's children bear 1 and 2; behind 1 stand 3 and 4, behind 2 stand 4 and 5; behind that 4 stands 6.
	nodes := testaid.Nodes(-1, 9, 0, 0, 1, 1, 0, 2, 1, 1, 3, 2, 1, 4, 2, 2, 4, 2, 2, 5, 2, 5, 6, 3)
	for _, x := range []int{3, 4, 5, 6, 9} {
		walks(t, nodes, []int{x, 1, 2, 3, 4, 5, 6, 7}, []int{0}, x) // of a grandchild, or its own
	}
	for _, x := range []int{1, 2, 5, 6, 9} {
		walks(t, nodes, []int{1, x, 4, 0, 0, 6, 0, 0}, []int{0, 1}, x) // of itself, its brother, a brother's child
	}
	for _, x := range []int{1, 2, 3, 6, 9} {
		walks(t, nodes, []int{2, 4, x, 0, 0, 6, 0, 0}, []int{0, 2}, x)
	}
	// The same token behind both: each has its own.
	walks(t, nodes, []int{1, 4, 4, 0, 6, 6, 0, 0}, []int{0, 1, 4}, 6)
	walks(t, nodes, []int{2, 4, 4, 0, 6, 6, 0, 8}, []int{0, 2, 5, 7}, 8)
	// The parents of one depth stand in any order.
	turned := testaid.Nodes(-1, 9, 0, 0, 1, 1, 0, 2, 1, 2, 4, 2, 1, 4, 2, 4, 6, 3, 3, 6, 3)
	walks(t, turned, []int{1, 4, 4, 6, 6, 7, 8}, []int{0, 1, 4, 5}, 7)
	walks(t, turned, []int{2, 4, 4, 6, 6, 7, 8}, []int{0, 2, 3, 6}, 8)
}

// Ways that end within a chain at each place, and at its leaf.
func TestWalkChains(t *testing.T) {
	for n := 1; n <= 32; n++ {
		nodes := testaid.Chain(n)
		for end := range n {
			var chosen, want []int
			for place := range n {
				chosen = append(chosen, 1+(place+1)%5)
				if place <= end {
					want = append(want, place)
				}
			}
			chosen[end] = 99
			walks(t, nodes, chosen, want, 99)
		}
	}
}

// Each child of a root with many, the first and the last.
func TestWalkStars(t *testing.T) {
	for n := 2; n <= 32; n++ {
		for place := 1; place < n; place++ {
			chosen := slices.Repeat([]int{place}, n)
			walks(t, testaid.Star(n), chosen, []int{0, place}, place)
		}
		walks(t, testaid.Star(n), slices.Repeat([]int{n}, n), []int{0}, n)
	}
}

// All trees of up to five nodes of two tokens, with all choices of these and another.
func TestWalkAllShort(t *testing.T) {
	trees := shortTrees(5)
	choices := testaid.Lists(5, 0, 1, 2)
	if len(trees) < 100 {
		t.Fatalf("only %d trees", len(trees))
	}
	for _, nodes := range trees {
		for _, chosen := range choices {
			if len(chosen) == len(nodes) {
				walksAsWords(t, nodes, chosen)
			} else {
				walksNot(t, nodes, chosen, api.ErrPath)
			}
		}
	}
}

func TestWalkDrawn(t *testing.T) {
	s := testaid.Source(201)
	within, leaf, long := 0, 0, 0
	for range 10000 {
		nodes := someTree(&s)
		chosen := someChoices(&s, nodes)
		way := walksAsWords(t, nodes, chosen)
		if t.Failed() {
			t.FailNow()
		}
		last := way[len(way)-1]
		if slices.ContainsFunc(nodes, func(n api.Node) bool { return n.Parent == last }) {
			within++
		} else {
			leaf++
		}
		if len(way) > 4 {
			long++
		}
	}
	if within < 1000 || leaf < 1000 || long < 1000 {
		t.Errorf("%d ways end within, %d at a leaf, %d are long", within, leaf, long)
	}
}
