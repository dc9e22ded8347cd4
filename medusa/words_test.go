package medusa_test

import (
	"slices"
	"testing"

	"augur/api"
	"augur/medusa"
	"augur/model"
	"augur/testaid"
)

// The chapter's words, said a second time: tokens by their counted ranks, and each node by its place alone.

// saying: what a head says of each token.
func saying(head api.Mat, hidden []int8) []int64 {
	says := make([]int64, head.Rows)
	for row := range says {
		for col, x := range hidden {
			says[row] += int64(head.Data[row*head.Cols+col]) * int64(x)
		}
	}
	return says
}

// byRank: the tokens, each at the place that so many others come ahead of.
func byRank(says []int64) []int {
	order := make([]int, len(says))
	for token, x := range says {
		rank := 0
		for other, y := range says {
			if y > x || y == x && other < token {
				rank++
			}
		}
		order[rank] = token
	}
	return order
}

// bestOf: by depth the tokens t_1 to t_d.
func bestOf(w api.Weights, hidden []int8, widths []int) [][]int {
	var out [][]int
	for i, head := range w.Medusa {
		if i == len(widths) {
			break
		}
		order := byRank(saying(head, hidden))
		out = append(out, order[:min(widths[i], len(order))])
	}
	return out
}

// nodeAt: the node at a place of the whole tree, and whether there is one. Depth i has as many nodes as the widths up to there multiplied.
func nodeAt(best [][]int, place int) (api.RawNode, bool) {
	above, start, count := -1, 0, 1
	for _, tokens := range best {
		width := len(tokens)
		count *= width
		if place < start+count {
			within := place - start
			return api.RawNode{Parent: above + within/width, Token: tokens[within%width]}, true
		}
		above, start = start, start+count
	}
	return api.RawNode{}, false
}

// proposed: what Propose is to answer.
func proposed(w api.Weights, hidden []int8, widths []int) []api.RawNode {
	best := bestOf(w, hidden, widths)
	var raw []api.RawNode
	for place := range 96 {
		if node, is := nodeAt(best, place); is {
			raw = append(raw, node)
		}
	}
	return raw
}

// measures: small and great ones, without Medusa matrices, with one and with several.
func measures() []api.Config {
	return []api.Config{
		{Vocab: 2, Width: 2, Heads: 1, KV: 1, Layers: 1, Hidden: 1, Len: 1, Medusa: 0},
		{Vocab: 3, Width: 2, Heads: 1, KV: 1, Layers: 1, Hidden: 1, Len: 8, Medusa: 1},
		{Vocab: 2, Width: 8, Heads: 4, KV: 2, Layers: 2, Hidden: 3, Len: 5, Medusa: 2},
		{Vocab: 7, Width: 6, Heads: 1, KV: 1, Layers: 1, Hidden: 4, Len: 9, Medusa: 3},
		{Vocab: 64, Width: 32, Heads: 4, KV: 4, Layers: 1, Hidden: 8, Len: 64, Medusa: 4},
		{Vocab: 5, Width: 4, Heads: 2, KV: 1, Layers: 1, Hidden: 3, Len: 8, Medusa: 4},
		{Vocab: 64, Width: 32, Heads: 2, KV: 1, Layers: 1, Hidden: 1, Len: 64, Medusa: 0},
	}
}

func newModel(t *testing.T, w api.Weights) *model.Model {
	t.Helper()
	m, e := model.New(w)
	if e != api.OK {
		t.Fatalf("New answered the error %d", e)
	}
	return m
}

// telling: weights of so many tokens whose Medusa heads say just these numbers of the vector 1, 0.
func telling(tokens int, says ...[]int8) api.Weights {
	s := testaid.Source(180)
	w := s.Weights(api.Config{Vocab: tokens, Width: 2, Heads: 1, KV: 1, Layers: 1, Hidden: 1, Len: 8, Medusa: len(says)})
	for i, numbers := range says {
		for token := range tokens {
			w.Medusa[i].Data[2*token] = 0
		}
		for token, x := range numbers {
			w.Medusa[i].Data[2*token] = x
		}
	}
	return w
}

// oneNought: the vector of which they say it.
func oneNought() []int8 { return []int8{1, 0} }

// example: the chapter's two heads.
func example() api.Weights { return telling(4, []int8{5, 9, 9, 1}, []int8{0, 0, 7, 3}) }

// level: heads that say the same of all of so many tokens.
func level(tokens, many int) api.Weights { return telling(tokens, make([][]int8, many)...) }

// raws: raw nodes of a list of parents and tokens, one behind the other.
func raws(numbers ...int) []api.RawNode {
	var out []api.RawNode
	for i := 0; i < len(numbers); i += 2 {
		out = append(out, api.RawNode{Parent: numbers[i], Token: numbers[i+1]})
	}
	return out
}

// treeOf: what Propose answers, which must be no error.
func treeOf(t *testing.T, m *model.Model, hidden []int8, widths ...int) []api.RawNode {
	t.Helper()
	raw, e := medusa.Propose(m, hidden, widths...)
	if e != api.OK {
		t.Fatalf("P15.1: Propose(.., %v, %v) answered the error %d", hidden, widths, e)
	}
	return raw
}

// gives: Propose answers just these nodes, and so the second writing says.
func gives(t *testing.T, w api.Weights, widths []int, want []api.RawNode) {
	t.Helper()
	if got := treeOf(t, newModel(t, w), oneNought(), widths...); !slices.Equal(got, want) {
		t.Errorf("P15.2: Propose(.., %v) = %v, want %v", widths, got, want)
	}
	if said := proposed(w, oneNought(), widths); !slices.Equal(said, want) {
		t.Errorf("P15.2: of the widths %v the words say %v, want %v", widths, said, want)
	}
}

// asWords: Propose answers what the second writing says.
func asWords(t *testing.T, m *model.Model, w api.Weights, hidden []int8, widths ...int) {
	t.Helper()
	if got, want := treeOf(t, m, hidden, widths...), proposed(w, hidden, widths); !slices.Equal(got, want) {
		t.Fatalf("P15.2: %v: Propose(.., %v, %v) = %v, want %v", w.Config, hidden, widths, got, want)
	}
}

// refused: Propose answers this error, and nothing beside it.
func refused(t *testing.T, m *model.Model, hidden []int8, want api.Errno, widths ...int) {
	t.Helper()
	if raw, e := medusa.Propose(m, hidden, widths...); e != want || len(raw) != 0 {
		t.Errorf("P15.1: Propose of %d numbers and %d widths = %v, %d, want the error %d", len(hidden), len(widths), raw, e, want)
	}
}

// someWidths: drawn ones, so many: small, great, and above the vocabulary.
func someWidths(s *testaid.Source, n, vocab int) []int {
	var out []int
	for range n {
		switch s.Below(8) {
		case 0:
			out = append(out, s.Below(vocab+3))
		case 1:
			out = append(out, int(s.Next()))
		default:
			out = append(out, s.Below(6))
		}
	}
	return out
}
