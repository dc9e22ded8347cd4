package ngram_test

import (
	"math"
	"slices"
	"testing"

	"augur/api"
	"augur/testaid"
)

// marked: so many times a 7 with so many further tokens behind it, all of them unlike, and one 7 at the end: each chain goes on as long as one asks.
func marked(times, further int) []int {
	var text []int
	for range times {
		text = append(text, 7)
		for range further {
			text = append(text, 100+len(text))
		}
	}
	return append(text, 7)
}

func TestWaysAndDeep(t *testing.T) {
	x := made(t, 4, marked(3, 2)...) // 7 101 102 7 104 105 7 107 108 7
	has(t, x, 10, 7, 4, 1)
	for _, none := range []int{math.MinInt, -1, 0} {
		for _, some := range []int{math.MinInt, -1, 0, 1, 3, math.MaxInt} {
			proposes(t, x, none, some, nil)
			proposes(t, x, some, none, nil)
		}
	}
	proposes(t, x, 1, 1, raw(-1, 107))
	proposes(t, x, 2, 1, raw(-1, 107, -1, 104))
	proposes(t, x, 3, 1, raw(-1, 107, -1, 104, -1, 101))
	proposes(t, x, 4, 1, raw(-1, 107, -1, 104, -1, 101))
	proposes(t, x, math.MaxInt, 1, raw(-1, 107, -1, 104, -1, 101))
	proposes(t, x, 1, 3, raw(-1, 107, 0, 108, 1, 7))
	proposes(t, x, 1, 4, raw(-1, 107, 0, 108, 1, 7)) // the text ends there
	proposes(t, x, 2, 4, raw(-1, 107, 0, 108, 1, 7, -1, 104, 3, 105, 4, 7, 5, 107))
	proposes(t, x, 1, math.MaxInt, raw(-1, 107, 0, 108, 1, 7))
	if got := x.Propose(math.MaxInt, math.MaxInt); len(got) != 3+6+9 || got[9] != (api.RawNode{Parent: -1, Token: 101}) || got[17] != (api.RawNode{Parent: 16, Token: 7}) {
		t.Errorf("P13.4: all ways to the end of the text: %v", got)
	}
	asWords(t, x, 4, marked(3, 2))
}

// Alike chains stay, each with nodes of its own.
func TestAlikeChains(t *testing.T) {
	x := made(t, 1, 1, 2, 3, 1, 2, 3, 1, 2, 3, 1)
	proposes(t, x, 3, 2, raw(-1, 2, 0, 3, -1, 2, 2, 3, -1, 2, 4, 3))
	proposes(t, x, 3, 1, raw(-1, 2, -1, 2, -1, 2))
	x = made(t, 1, 0, 0, 0, 0)
	proposes(t, x, 9, 9, raw(-1, 0, -1, 0, 1, 0, -1, 0, 3, 0, 4, 0))
}

// Just MaxRaw nodes, one fewer, one more, in one chain, in whole chains, in a chain that is cut in its middle.
func TestMaxRaw(t *testing.T) {
	for _, further := range []int{93, 94, 95, 96, 200} {
		text := marked(1, further)
		x := made(t, 2, text...)
		for _, deep := range []int{94, 95, 96, 97, math.MaxInt} {
			want := min(further+1, deep, 96)
			got := x.Propose(1, deep)
			if len(got) != want || got[want-1] != (api.RawNode{Parent: want - 2, Token: text[want]}) {
				t.Errorf("P13.4: of one chain of %d tokens, %d deep: %d nodes, want %d", further+1, deep, len(got), want)
			}
			proposes(t, x, 5, deep, got)
		}
	}
	for _, c := range []struct{ times, further, ways, deep, all int }{
		{8, 11, 8, 12, 96}, {9, 11, 8, 12, 96}, {9, 11, 9, 12, 108}, // the cut is between two chains
		{9, 11, 9, 11, 99}, {8, 11, 8, 13, 12 + 7*13}, {3, 40, 3, 41, 123},
		{96, 3, 96, 1, 96}, {97, 3, 97, 1, 97}, {97, 3, 95, 1, 95}, {97, 3, 96, 1, 96}, {200, 1, math.MaxInt, 1, 200},
		{48, 3, 48, 2, 96}, {49, 3, 49, 2, 98}, {2, 95, 2, 1, 2},
		{2, 47, 2, 48, 96}, {2, 47, 2, 49, 97}, {2, 48, 2, 48, 96}, {2, 48, 2, 49, 98}, {2, 94, 2, 96, 95 + 96}, {2, 95, 2, 96, 192}, {2, 93, 2, 94, 188},
	} {
		text := marked(c.times, c.further)
		x := made(t, 4, text...)
		want := proposed(text, 4, c.ways, c.deep)
		if len(want) != min(c.all, 96) {
			t.Fatalf("%v: the words ask for %d nodes", c, len(want))
		}
		proposes(t, x, c.ways, c.deep, want)
	}
	// Of two chains the second is cut to its first node, and to all but its last.
	proposed := made(t, 1, marked(2, 94)...).Propose(2, 96)
	if len(proposed) != 96 || proposed[94].Parent != 93 || proposed[95] != (api.RawNode{Parent: -1, Token: 101}) {
		t.Errorf("P13.4: cut behind a chain's first node: %v", proposed[90:])
	}
}

// Of a long text all is told, and from any place.
func TestLongText(t *testing.T) {
	s := testaid.Source(152)
	for most := 1; most <= 4; most++ {
		text := someTokens(&s, []int{1, 2}, 3000)
		x := made(t, most, text...)
		for range 40 {
			_, places := endRun(text, most)
			has(t, x, len(text), places...)
			proposes(t, x, 1000, 1, proposed(text, most, 1000, 1))
			proposes(t, x, 5, 100, proposed(text, most, 5, 100))
			n := s.Below(len(text))
			x.Cut(n)
			more := someTokens(&s, []int{1, 2}, 3000-n-s.Below(10))
			x.Append(more...)
			text = append(text[:n], more...)
		}
	}
	x := made(t, 4)
	for n := range 100000 {
		if n > 4 && !slices.Equal(x.Propose(1, 9), raw(-1, 6)) {
			t.Fatalf("P13.4: of %d sixes: %v", n, x.Propose(1, 9))
		}
		x.Append(6)
	}
	x.Cut(50000)
	has(t, x, 50000, countDown(49999, 4)...)
}

// countDown: the numbers from one down to another.
func countDown(from, to int) []int {
	var out []int
	for ; from >= to; from-- {
		out = append(out, from)
	}
	return out
}
