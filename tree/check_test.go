package tree_test

import (
	"math"
	"slices"
	"testing"

	"augur/api"
	"augur/testaid"
	"augur/tree"
)

func TestCheckExamples(t *testing.T) {
	isOne(t, second())
	isNone(t, testaid.Nodes(0, 7, 0))
	isNone(t, testaid.Nodes(-1, 7, 0, 0, 3, 1, 0, 3, 1))
	isNone(t, testaid.Nodes(-1, 7, 0, 0, 0, 1))
	isNone(t, nil)
	isNone(t, []api.Node{})
}

func TestCheckMost(t *testing.T) {
	for n := 1; n <= 32; n++ {
		isOne(t, testaid.Chain(n))
		isOne(t, testaid.Star(n))
	}
	for _, n := range []int{33, 34, 64, 65, 1000} {
		isNone(t, testaid.Chain(n))
		isNone(t, testaid.Star(n))
	}
}

func TestCheckRoot(t *testing.T) {
	for _, token := range []int{math.MinInt, -1, 0, 1, 3, math.MaxInt} {
		isOne(t, testaid.Nodes(-1, token, 0))
		isOne(t, testaid.Nodes(-1, token, 0, 0, 3, 1))
	}
	for _, parent := range []int{math.MinInt, -2, 0, 1, math.MaxInt} {
		isNone(t, testaid.Nodes(parent, 7, 0))
		isNone(t, testaid.Nodes(parent, 7, 0, 0, 3, 1))
	}
	for _, depth := range []int{math.MinInt, -1, 1, 2, math.MaxInt} {
		isNone(t, testaid.Nodes(-1, 7, depth))
		isNone(t, testaid.Nodes(-1, 7, depth, 0, 3, depth+1))
		isNone(t, testaid.Nodes(-1, 7, depth, 0, 3, 1))
	}
}

func TestCheckParents(t *testing.T) {
	for _, parent := range []int{math.MinInt, -2, -1, 2, 3, 31, 32, math.MaxInt} {
		for _, depth := range []int{0, 1, 2, 3} {
			isNone(t, testaid.Nodes(-1, 7, 0, 0, 3, 1, parent, 4, depth))
			isNone(t, testaid.Nodes(-1, 7, 0, 0, 3, 1, parent, 4, depth, 0, 5, 1))
		}
	}
	isOne(t, testaid.Nodes(-1, 7, 0, 0, 3, 1, 0, 4, 1))
	isOne(t, testaid.Nodes(-1, 7, 0, 0, 3, 1, 1, 4, 2))
	isNone(t, testaid.Nodes(-1, 7, 0, 1, 3, 1))                           // its own place
	isNone(t, testaid.Nodes(-1, 7, 0, 2, 3, 2, 0, 4, 1))                  // behind it
	isOne(t, testaid.Nodes(-1, 7, 0, 0, 3, 1, 0, 4, 1, 2, 5, 2, 1, 6, 2)) // the parents may fall
}

func TestCheckDepths(t *testing.T) {
	for _, depth := range []int{math.MinInt, -1, 0, 1, 3, 4, math.MaxInt} {
		isNone(t, testaid.Nodes(-1, 7, 0, 0, 3, 1, 1, 4, depth))
	}
	for _, depth := range []int{math.MinInt, -1, 0, 2, 3, math.MaxInt} {
		isNone(t, testaid.Nodes(-1, 7, 0, 0, 3, depth))
		isNone(t, testaid.Nodes(-1, 7, 0, 0, 3, 1, 0, 4, depth))
	}
	// Depths that fall, each right for its parent.
	isNone(t, testaid.Nodes(-1, 7, 0, 0, 3, 1, 1, 4, 2, 0, 5, 1))
	isNone(t, testaid.Nodes(-1, 7, 0, 0, 3, 1, 1, 4, 2, 2, 5, 3, 1, 6, 2))
	isNone(t, testaid.Nodes(-1, 7, 0, 0, 3, 1, 0, 4, 1, 1, 4, 2, 2, 5, 2, 3, 5, 3, 0, 6, 1))
	isOne(t, testaid.Nodes(-1, 7, 0, 0, 3, 1, 0, 4, 1, 1, 4, 2, 2, 5, 2, 3, 5, 3))
}

func TestCheckTokens(t *testing.T) {
	for _, token := range []int{math.MinInt, -7, -1, 0} {
		isNone(t, testaid.Nodes(-1, 7, 0, 0, token, 1))
		isNone(t, testaid.Nodes(-1, 7, 0, 0, 1, 1, 1, token, 2))
		isNone(t, testaid.Nodes(-1, 7, 0, 0, token, 1, 1, 1, 2))
	}
	for _, token := range []int{1, 2, 63, 64, 1 << 40, math.MaxInt} {
		isOne(t, testaid.Nodes(-1, 7, 0, 0, token, 1, 1, token, 2))
	}
}

// Two nodes with one parent and one token: side by side or not, at any depth.
func TestCheckAlike(t *testing.T) {
	isNone(t, testaid.Nodes(-1, 7, 0, 0, 3, 1, 0, 4, 1, 0, 3, 1))
	isNone(t, testaid.Nodes(-1, 7, 0, 0, 3, 1, 0, 4, 1, 1, 5, 2, 2, 5, 2, 1, 5, 2))
	isNone(t, testaid.Nodes(-1, 7, 0, 0, 3, 1, 1, 5, 2, 2, 5, 3, 2, 6, 3, 2, 6, 3))
	isNone(t, append(testaid.Star(31), api.Node{Token: 30, Depth: 1}))
	isNone(t, append(testaid.Star(31), api.Node{Token: 1, Depth: 1}))
	isOne(t, testaid.Nodes(-1, 7, 0, 0, 7, 1, 0, 4, 1, 1, 4, 2, 2, 4, 2)) // unlike parents, or the parent's token
	isOne(t, testaid.Nodes(-1, 7, 0, 0, 5, 1, 0, 5+1<<8, 1, 0, 5+1<<32, 1))
}

// Trees with one number changed: what the words say of each.
func TestCheckChanged(t *testing.T) {
	s := testaid.Source(163)
	trees := 0
	for range 4000 {
		some := someTree(&s, 1+s.Below(33))
		if s.Below(2) > 0 {
			some[s.Below(len(some))].Token = 1 + s.Below(9)
		}
		n := &some[s.Below(len(some))]
		switch s.Below(4) {
		case 0:
			n.Parent += s.Below(5) - 2
		case 1:
			n.Depth += s.Below(3) - 1
		case 2:
			n.Token = some[s.Below(len(some))].Token
		}
		if isTree(some) {
			trees++
			isOne(t, some)
		} else {
			isNone(t, some)
		}
		if t.Failed() {
			t.FailNow()
		}
	}
	if trees < 1000 || trees > 3000 {
		t.Errorf("%d trees of 4000", trees)
	}
}

// All lists of three nodes with small numbers.
func TestCheckAllShort(t *testing.T) {
	var every []api.Node
	for parent := -1; parent <= 2; parent++ {
		for token := 0; token <= 2; token++ {
			for depth := range 4 {
				every = append(every, api.Node{Parent: parent, Token: token, Depth: depth})
			}
		}
	}
	trees := 0
	for _, a := range every {
		for _, b := range every {
			for _, c := range every {
				some := []api.Node{a, b, c}
				is := isTree(some)
				if is {
					trees++
				}
				if (tree.Check(some) == api.OK) != is {
					t.Errorf("P14.3: Check(%v) = %d", some, tree.Check(some))
				}
			}
		}
	}
	if trees != 3*2*3 { // any root; any child; the third one behind the second, or its unlike sibling
		t.Errorf("%d trees", trees)
	}
}

func TestCut(t *testing.T) {
	for most, want := range [][]api.Node{1: testaid.Nodes(-1, 7, 0), 2: second()[:2], 3: testaid.Nodes(-1, 7, 0, 0, 3, 1, 0, 5, 1), 4: second()[:4], 5: second(), 6: second()} {
		got, e := tree.Cut(second(), most)
		if most == 0 && (e != api.ErrArg || len(got) != 0) || most > 0 && (e != api.OK || !slices.Equal(got, want)) {
			t.Errorf("P14.4: Cut of the second example's, %d = %v, %d", most, got, e)
		}
	}
	// What is no tree is told ahead of a number that may not be.
	for _, most := range []int{math.MinInt, -1, 0, 1} {
		for _, some := range [][]api.Node{nil, testaid.Nodes(0, 7, 0), testaid.Chain(33), testaid.Nodes(-1, 7, 0, 0, 0, 1)} {
			if got, e := tree.Cut(some, most); e != api.ErrTree || len(got) != 0 {
				t.Errorf("P14.4: Cut(%v, %d) = %v, %d", some, most, got, e)
			}
		}
	}
	// Though what would be left is a tree.
	if got, e := tree.Cut(testaid.Nodes(-1, 7, 0, 0, 3, 1, 0, 0, 1), 2); e != api.ErrTree || len(got) != 0 {
		t.Errorf("P14.4: Cut of no tree = %v, %d", got, e)
	}
}
