package medusa_test

import (
	"slices"
	"testing"

	"augur/api"
	"augur/testaid"
)

// depthOf: as the chapter's words say it.
func depthOf(raw []api.RawNode, place int) int {
	if raw[place].Parent == -1 {
		return 1
	}
	return 1 + depthOf(raw, raw[place].Parent)
}

// wellMade: each parent stands ahead, nodes of one parent are unlike, depths never fall and are no more than there are heads and widths, and there are at most MaxRaw nodes.
func wellMade(t *testing.T, raw []api.RawNode, depths int) {
	t.Helper()
	if len(raw) > 96 {
		t.Fatalf("P15.2: %d nodes", len(raw))
	}
	seen := map[api.RawNode]int{}
	for place, node := range raw {
		if node.Parent < -1 || node.Parent >= place {
			t.Fatalf("what follows: %v: the parent of node %d", raw, place)
		}
		if seen[node]++; seen[node] > 1 {
			t.Fatalf("what follows: %v: node %d stands there twice", raw, place)
		}
		depth := depthOf(raw, place)
		if depth > depths || place > 0 && depth < depthOf(raw, place-1) {
			t.Fatalf("what follows: %v: node %d has the depth %d", raw, place, depth)
		}
	}
}

func TestTreesAreWellMade(t *testing.T) {
	s := testaid.Source(189)
	full := 0
	for _, c := range measures() {
		for range 10 {
			m := newModel(t, s.Weights(c))
			for range 30 {
				widths := someWidths(&s, s.Below(7), c.Vocab)
				raw := treeOf(t, m, s.Narrow(c.Width), widths...)
				wellMade(t, raw, min(len(widths), c.Medusa))
				if len(raw) == 96 {
					full++
				}
			}
		}
	}
	if full < 100 {
		t.Errorf("only %d full trees", full)
	}
}

// The first widths give the beginning.
func TestFewerWidths(t *testing.T) {
	s := testaid.Source(190)
	for _, c := range measures() {
		for range 10 {
			m := newModel(t, s.Weights(c))
			for range 20 {
				hidden, widths := s.Narrow(c.Width), someWidths(&s, 7, c.Vocab)
				var less []api.RawNode
				for n := range len(widths) + 1 {
					more := treeOf(t, m, hidden, widths[:n]...)
					if len(more) < len(less) || !slices.Equal(more[:len(less)], less) {
						t.Fatalf("what follows: of %v: %v, and of one width more %v", widths[:n-1], less, more)
					}
					if n > c.Medusa && len(more) != len(less) {
						t.Fatalf("what follows: of %v with %d matrices: %v", widths[:n], c.Medusa, more)
					}
					less = more
				}
			}
		}
	}
}

// Widths of 1 give one way: the best token of each head.
func TestOneWay(t *testing.T) {
	s := testaid.Source(191)
	for _, c := range measures() {
		for range 10 {
			w := s.Weights(c)
			m := newModel(t, w)
			hidden := s.Narrow(c.Width)
			for n := range 7 {
				var want []api.RawNode
				for place := range min(n, c.Medusa) {
					says := saying(w.Medusa[place], hidden)
					want = append(want, api.RawNode{Parent: place - 1, Token: slices.Index(says, slices.Max(says))})
				}
				if got := treeOf(t, m, hidden, slices.Repeat([]int{1}, n)...); !slices.Equal(got, want) {
					t.Fatalf("what follows: %d widths of 1 give %v, want %v", n, got, want)
				}
			}
		}
	}
}
