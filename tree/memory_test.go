package tree_test

import (
	"slices"
	"testing"

	"augur/api"
	"augur/testaid"
	"augur/tree"
)

var (
	rawMark  = api.RawNode{Parent: 77, Token: 78}
	nodeMark = api.Node{Parent: 77, Token: 78, Depth: 79}
)

// What is handed in stays, and the room behind it.
func TestArgumentsStay(t *testing.T) {
	s := testaid.Source(168)
	for range 300 {
		raw, other := testaid.Roomy(someRaw(&s, s.Below(96), 5), rawMark), testaid.Roomy(someRaw(&s, s.Below(9), 5), rawMark)
		some := testaid.Roomy(someTree(&s, 1+s.Below(33)), nodeMark)
		lists := testaid.Roomy([][]api.RawNode{raw, other, raw}, nil)
		same := []func() bool{testaid.Guard(raw), testaid.Guard(other), testaid.Guard(some)}
		tree.Clean(7, raw, 5)
		tree.Join(lists...)
		tree.Check(some)
		tree.Cut(some, 1+s.Below(40))
		tree.Above(some)
		for way := range tree.Paths(some) {
			testaid.Overwrite(way, 99)
		}
		for i, is := range same {
			if !is() {
				t.Fatalf("P14.7: argument %d was changed, or the room behind it", i)
			}
		}
		if len(lists[0]) != len(raw) || len(lists[1]) != len(other) || lists[:4][3] != nil {
			t.Fatal("P14.7: Join changed the list of lists")
		}
	}
}

// What was handed in may be written over behind the call.
func TestNothingIsKept(t *testing.T) {
	s := testaid.Source(169)
	for range 300 {
		raw, other := someRaw(&s, s.Below(96), 5), someRaw(&s, s.Below(9), 5)
		some := someTree(&s, 1+s.Below(32))
		clean, _ := tree.Clean(7, raw, 5)
		joined, alone, behind := tree.Join(raw, other), tree.Join(raw), tree.Join(nil, raw)
		cut, _ := tree.Cut(some, 20)
		whole, _ := tree.Cut(some, len(some))
		sets, _ := tree.Above(some)
		all := tree.Paths(some)
		left := tree.Paths(some)
		for range left {
			break
		}
		nodesWere := [][]api.Node{slices.Clone(clean), slices.Clone(cut), slices.Clone(whole)}
		rawWere := [][]api.RawNode{slices.Clone(joined), slices.Clone(alone), slices.Clone(behind)}
		setsWere, ways := slices.Clone(sets), leafWays(some)
		testaid.Overwrite(raw, rawMark)
		testaid.Overwrite(other, rawMark)
		testaid.Overwrite(some, nodeMark)
		for i, now := range [][]api.Node{clean, cut, whole} {
			if !slices.Equal(now, nodesWere[i]) {
				t.Fatalf("P14.7: tree %d changed with what was handed in", i)
			}
		}
		for i, now := range [][]api.RawNode{joined, alone, behind} {
			if !slices.Equal(now, rawWere[i]) {
				t.Fatalf("P14.7: raw tree %d changed with what was handed in", i)
			}
		}
		if !slices.Equal(sets, setsWere) {
			t.Fatal("P14.7: sets changed with what was handed in")
		}
		gives(t, all, ways...)
		gives(t, left, ways...)
	}
}

// What was no tree when it was handed in is none, though it becomes one; and what was one stays one within a going through.
func TestPathsAsHandedIn(t *testing.T) {
	some := testaid.Nodes(-1, 7, 0, 0, 0, 1)
	all := tree.Paths(some)
	some[1].Token = 3
	gives(t, all)
	some = second()
	var met [][]int
	for way := range tree.Paths(some) {
		met = append(met, way)
		testaid.Overwrite(some, nodeMark)
	}
	if !sameWays(met, leafWays(second())) {
		t.Errorf("P14.7: written over within the going through, the ways are %v", met)
	}
}

// Answers written into or appended to change no other answer, and no later one.
func TestAnswersAreApart(t *testing.T) {
	s := testaid.Source(170)
	for range 300 {
		raw, some := someRaw(&s, s.Below(96), 5), someTree(&s, 2+s.Below(31))
		clean, _ := tree.Clean(7, raw, 5)
		joined := tree.Join(raw, raw)
		cut, _ := tree.Cut(some, 1)
		whole, _ := tree.Cut(some, 99)
		sets, _ := tree.Above(some)
		all := tree.Paths(some)
		_, _, _ = append(clean, nodeMark), append(joined, rawMark), append(sets, api.Bits{7})
		_ = append(cut, nodeMark, nodeMark)
		testaid.Overwrite(clean, nodeMark)
		testaid.Overwrite(joined, rawMark)
		testaid.Overwrite(cut, nodeMark)
		testaid.Overwrite(sets, api.Bits{7})
		if !slices.Equal(whole, some) {
			t.Fatal("P14.7: two answers of Cut share memory")
		}
		testaid.Overwrite(whole, nodeMark)
		cleans(t, 7, raw, 5, cleaned(7, raw, 5))
		joins(t, raw, raw)
		isOne(t, some)
		gives(t, all, leafWays(some)...)
	}
}

// Each way that Paths gives is new memory, in one going through and from one to the next.
func TestEachWayIsNew(t *testing.T) {
	s := testaid.Source(171)
	for range 300 {
		some := someTree(&s, 1+s.Below(32))
		all, want := tree.Paths(some), leafWays(some)
		kept := slices.Collect(all)
		n := 0
		for way := range all {
			if !slices.Equal(way, want[n]) {
				t.Fatalf("P14.7: %v: way %d is %v, when the ones ahead were written over", some, n, way)
			}
			_ = append(way, 99)
			testaid.Overwrite(way, 99)
			n++
		}
		if !sameWays(kept, want) {
			t.Fatalf("P14.7: ways that were kept are %v, when others were written over", kept)
		}
		for i := range kept {
			testaid.Overwrite(kept[i], 99)
			if !sameWays(kept[i+1:], want[i+1:]) {
				t.Fatal("P14.7: two ways of one going through share memory")
			}
		}
		gives(t, all, want...)
	}
}

// What is asked between changes nothing, and the order of the calls is not seen.
func TestOrderIsNotSeen(t *testing.T) {
	s := testaid.Source(172)
	for range 100 {
		raw, other := someRaw(&s, s.Below(97), 6), someRaw(&s, s.Below(97), 6)
		cleans(t, 1, raw, 6, cleaned(1, raw, 6))
		cleans(t, 2, other, 4, cleaned(2, other, 4))
		isNone(t, testaid.Chain(33))
		tree.Clean(1, make([]api.RawNode, 97), 6)
		isOne(t, someTree(&s, 1+s.Below(32)))
		cleans(t, 1, raw, 6, cleaned(1, raw, 6))
	}
}
