package tree_test

import (
	"iter"
	"slices"
	"testing"

	"augur/api"
	"augur/testaid"
	"augur/tree"
)

// above: Above answers those sets.
func above(t *testing.T, some []api.Node, want ...api.Bits) {
	t.Helper()
	if got, e := tree.Above(some); e != api.OK || !slices.Equal(got, want) {
		t.Errorf("P14.5: Above(%v) = %x, %d, want %x", some, got, e, want)
	}
}

func TestAbove(t *testing.T) {
	above(t, second(), api.Bits{1}, api.Bits{3}, api.Bits{5}, api.Bits{11}, api.Bits{27})
	above(t, testaid.Nodes(-1, 7, 0), api.Bits{1})
	above(t, testaid.Nodes(-1, 0, 0, 0, 1, 1), api.Bits{1}, api.Bits{3})
	above(t, testaid.Nodes(-1, 7, 0, 0, 3, 1, 0, 4, 1, 2, 5, 2, 1, 6, 2), api.Bits{1}, api.Bits{3}, api.Bits{5}, api.Bits{13}, api.Bits{19})
}

// Up to the last place that a tree may have: on both sides of what 8, 16 and 31 bits hold.
func TestAboveLong(t *testing.T) {
	var down, across []api.Bits
	for place := range 32 {
		down = append(down, api.Bits{1<<(place+1) - 1})
		across = append(across, api.Bits{1<<place | 1})
	}
	for n := 1; n <= 32; n++ {
		above(t, testaid.Chain(n), down[:n]...)
		above(t, testaid.Star(n), across[:n]...)
	}
	if down[31] != (api.Bits{4294967295}) || across[31] != (api.Bits{2147483649}) {
		t.Errorf("the last sets are %d and %d", down[31], across[31])
	}
}

func TestDrawnTrees(t *testing.T) {
	s := testaid.Source(164)
	for range 2000 {
		isOne(t, someTree(&s, 1+s.Below(32)))
		if t.Failed() {
			t.FailNow()
		}
	}
}

// gives: the iterator gives those ways, and again.
func gives(t *testing.T, all iter.Seq[[]int], want ...[]int) {
	t.Helper()
	for range 3 {
		if got := slices.Collect(all); !sameWays(got, want) {
			t.Errorf("P14.6: the ways are %v, want %v", got, want)
		}
	}
}

func TestPaths(t *testing.T) {
	gives(t, tree.Paths(second()), []int{0, 2}, []int{0, 1, 3, 4})
	gives(t, tree.Paths(testaid.Nodes(-1, 7, 0)), []int{0})
	gives(t, tree.Paths(testaid.Nodes(-1, 0, 0, 0, 1, 1)), []int{0, 1})
	gives(t, tree.Paths(testaid.Nodes(-1, 7, 0, 0, 3, 1, 0, 4, 1, 2, 5, 2, 1, 6, 2)), []int{0, 2, 3}, []int{0, 1, 4})
	gives(t, tree.Paths(nil))
	gives(t, tree.Paths(second()[1:]))
	gives(t, tree.Paths(testaid.Nodes(-1, 7, 0, 0, 3, 1, 0, 3, 1)))
	gives(t, tree.Paths(testaid.Chain(33)))
	gives(t, tree.Paths(testaid.Star(33)))
	var down []int
	var across [][]int
	for place := range 32 {
		down = append(down, place)
		if place > 0 {
			across = append(across, []int{0, place})
		}
	}
	gives(t, tree.Paths(testaid.Chain(32)), down)
	gives(t, tree.Paths(testaid.Star(32)), across...)
}

// Left early behind any way, it has given those up to there; then it may be gone through again, from the first way on.
func TestPathsLeft(t *testing.T) {
	some := testaid.Star(6)
	all := tree.Paths(some)
	for stop := range 5 {
		met := 0
		for way := range all {
			if !slices.Equal(way, []int{0, met + 1}) {
				t.Errorf("P14.6: way %d is %v", met, way)
			}
			if met == stop {
				break
			}
			met++
		}
		if met != stop {
			t.Errorf("P14.6: left behind %d ways, not %d", met, stop)
		}
		gives(t, all, []int{0, 1}, []int{0, 2}, []int{0, 3}, []int{0, 4}, []int{0, 5})
	}
	calls := 0
	all(func([]int) bool { calls++; return calls < 3 })
	if calls != 3 {
		t.Errorf("P14.6: told to stop at the third way, it gave %d", calls)
	}
}

// One going through within another, and two by turns, know nothing of one another.
func TestPathsWithinPaths(t *testing.T) {
	all := tree.Paths(second())
	outer := 0
	for way := range all {
		gives(t, all, []int{0, 2}, []int{0, 1, 3, 4})
		if !slices.Equal(way, [][]int{{0, 2}, {0, 1, 3, 4}}[outer]) {
			t.Errorf("P14.6: %v", way)
		}
		outer++
	}
	if outer != 2 {
		t.Errorf("P14.6: %d ways", outer)
	}
	one, stopOne := iter.Pull(all)
	two, stopTwo := iter.Pull(all)
	defer stopOne()
	defer stopTwo()
	for range 3 {
		a, more := one()
		b, again := two()
		if more != again || !slices.Equal(a, b) {
			t.Errorf("P14.6: by turns %v and %v", a, b)
		}
	}
}
