package draft_test

import (
	"slices"
	"testing"

	"augur/api"
	"augur/draft"
	"augur/model"
	"augur/testaid"
	"augur/xform"
)

// The chapter's words, said a second time: of each node the whole text is kept, tokens are ordered by counting.

// wordsLogits: of what comes behind the window of a text.
func wordsLogits(t *testing.T, m *model.Model, w api.Weights, text []int) []int64 {
	t.Helper()
	if more := len(text) - w.Config.Len; more > 0 {
		text = text[more:]
	}
	points, e := xform.Full(m, text)
	if e != api.OK {
		t.Fatalf("Full(%v) answered the error %d", text, e)
	}
	logits := make([]int64, w.Head.Rows)
	for row := range logits {
		for col, x := range points[len(text)-1].Hidden {
			logits[row] += int64(w.Head.Data[row*w.Head.Cols+col]) * int64(x)
		}
	}
	return logits
}

// wordsBest: the best k behind a text: each token but End at the place that so many others come ahead of.
func wordsBest(t *testing.T, m *model.Model, w api.Weights, text []int, k int) []int {
	t.Helper()
	logits := wordsLogits(t, m, w, text)
	order := make([]int, len(logits)-1)
	for token := 1; token < len(logits); token++ {
		rank := 0
		for other := 1; other < len(logits); other++ {
			if logits[other] > logits[token] || logits[other] == logits[token] && other < token {
				rank++
			}
		}
		order[rank] = token
	}
	return order[:min(k, len(order))]
}

// twig: a node's place and the whole text up to it.
type twig struct {
	place int
	text  []int
}

// wordsTree: what Propose is to answer of tokens and widths that may be.
func wordsTree(t *testing.T, m *model.Model, w api.Weights, tokens, widths []int) []api.RawNode {
	t.Helper()
	var raw []api.RawNode
	above := []twig{{place: -1, text: tokens}}
	for _, width := range widths {
		var depth []twig
		for _, parent := range above {
			if len(raw) == 96 || width == 0 {
				break
			}
			for _, token := range wordsBest(t, m, w, parent.text, width) {
				if len(raw) == 96 {
					break
				}
				depth = append(depth, twig{place: len(raw), text: slices.Concat(parent.text, []int{token})})
				raw = append(raw, api.RawNode{Parent: parent.place, Token: token})
			}
		}
		above = depth
	}
	return raw
}

// wordsError: Propose's, of a model of these measures.
func wordsError(c api.Config, tokens, widths []int) api.Errno {
	switch {
	case len(widths) > 0 && slices.Min(widths) < 0:
		return api.ErrArg
	case len(tokens) == 0:
		return api.ErrEmpty
	case slices.Min(tokens) < 0 || slices.Max(tokens) >= c.Vocab:
		return api.ErrToken
	}
	return api.OK
}

// measures: the least and the greatest ones, and some between.
func measures() []api.Config {
	return []api.Config{
		{Vocab: 2, Width: 2, Heads: 1, KV: 1, Layers: 1, Hidden: 1, Len: 1, Medusa: 0},
		{Vocab: 2, Width: 2, Heads: 1, KV: 1, Layers: 1, Hidden: 1, Len: 2, Medusa: 1},
		{Vocab: 3, Width: 2, Heads: 1, KV: 1, Layers: 1, Hidden: 1, Len: 8, Medusa: 0},
		{Vocab: 5, Width: 8, Heads: 4, KV: 2, Layers: 2, Hidden: 3, Len: 5, Medusa: 2},
		{Vocab: 12, Width: 6, Heads: 1, KV: 1, Layers: 1, Hidden: 4, Len: 9, Medusa: 3},
		{Vocab: 40, Width: 4, Heads: 2, KV: 1, Layers: 3, Hidden: 5, Len: 12, Medusa: 0},
		{Vocab: 64, Width: 32, Heads: 4, KV: 4, Layers: 4, Hidden: 64, Len: 64, Medusa: 4},
	}
}

// small: those that are soon worked through.
func small() []api.Config { return measures()[:6] }

func made(t *testing.T, w api.Weights) *model.Model {
	t.Helper()
	m, e := model.New(w)
	if e != api.OK {
		t.Fatalf("New answered the error %d", e)
	}
	return m
}

func ring(t *testing.T) *model.Model {
	t.Helper()
	return made(t, testaid.Ring())
}

// level: a model of so many tokens that likes all of them alike.
func level(t *testing.T, tokens, long int) (*model.Model, api.Weights) {
	t.Helper()
	s := testaid.Source(2500)
	w := s.Weights(api.Config{Vocab: tokens, Width: 2, Heads: 1, KV: 1, Layers: 1, Hidden: 1, Len: long})
	clear(w.Head.Data)
	return made(t, w), w
}

// drawnText: so many tokens of a model of these measures.
func drawnText(s *testaid.Source, c api.Config, n int) []int {
	text := make([]int, n)
	for i := range text {
		text[i] = s.Below(c.Vocab)
	}
	return text
}

// drawnWidths: so many: small ones most of all, great ones, and some above the vocabulary.
func drawnWidths(s *testaid.Source, c api.Config, n int) []int {
	var out []int
	for range n {
		switch s.Below(12) {
		case 0:
			out = append(out, s.Below(c.Vocab+3))
		case 1:
			out = append(out, int(s.Next()))
		case 2:
			out = append(out, 0)
		default:
			out = append(out, 1+s.Below(3))
		}
	}
	return out
}

// proposed: what Propose answers, which must be no error.
func proposed(t *testing.T, m *model.Model, tokens []int, widths ...int) []api.RawNode {
	t.Helper()
	raw, e := draft.Propose(m, tokens, widths...)
	if e != api.OK {
		t.Fatalf("P25.1: Propose of %d tokens with %d widths answered the error %d", len(tokens), len(widths), e)
	}
	return raw
}

// proposes: Propose answers just these parents and tokens.
func proposes(t *testing.T, m *model.Model, tokens, widths []int, numbers ...int) {
	t.Helper()
	if got, want := proposed(t, m, tokens, widths...), testaid.RawOf(numbers...); !slices.Equal(got, want) {
		t.Errorf("P25.1: Propose(%v, %v) = %v, want %v", tokens, widths, got, want)
	}
}

// asWords: Propose answers what the second writing says.
func asWords(t *testing.T, m *model.Model, w api.Weights, tokens []int, widths ...int) {
	t.Helper()
	if got, want := proposed(t, m, tokens, widths...), wordsTree(t, m, w, tokens, widths); !slices.Equal(got, want) {
		t.Fatalf("P25.1: %v: Propose(%v, %v) = %v, want %v", w.Config, tokens, widths, got, want)
	}
}

// refused: Propose answers this error, and nothing beside it.
func refused(t *testing.T, m *model.Model, tokens []int, want api.Errno, widths ...int) {
	t.Helper()
	if raw, e := draft.Propose(m, tokens, widths...); e != want || len(raw) != 0 {
		t.Errorf("P25.1: Propose of %d tokens and %d widths = %v, %d, want the error %d", len(tokens), len(widths), raw, e, want)
	}
}
