package beam_test

import (
	"cmp"
	"fmt"
	"slices"
	"testing"

	"augur/api"
	"augur/beam"
	"augur/model"
	"augur/pool"
	"augur/score"
	"augur/testaid"
	"augur/xform"
)

// The chapter's words, said a second time: each text's gaps without a cache, and the first of all continuations without rounds.

// teller: a model, its weights, and the logits that were asked for before, by their texts.
type teller struct {
	*testing.T
	m     *model.Model
	w     api.Weights
	known map[string][]int64
}

func tellerOf(t *testing.T, w api.Weights) *teller {
	t.Helper()
	m, e := model.New(w)
	if e != api.OK {
		t.Fatalf("model.New answered the error %d", e)
	}
	return &teller{T: t, m: m, w: w, known: map[string][]int64{}}
}

// logits: of what comes behind a text.
func (l *teller) logits(text []int) []int64 {
	l.Helper()
	key := fmt.Sprint(text)
	if logits, ok := l.known[key]; ok {
		return logits
	}
	points, e := xform.Full(l.m, text)
	if e != api.OK {
		l.Fatalf("Full(%v) answered the error %d", text, e)
	}
	logits := make([]int64, l.w.Head.Rows)
	for row := range logits {
		for col, x := range points[len(text)-1].Hidden {
			logits[row] += int64(l.w.Head.Data[row*l.w.Head.Cols+col]) * int64(x)
		}
	}
	l.known[key] = logits
	return logits
}

// ahead: does one continuation, or beginning, come ahead of another? A beginning comes ahead of what it may become.
func ahead(a, b api.Beam) int {
	return cmp.Or(cmp.Compare(a.Gap, b.Gap), slices.Compare(a.Tokens, b.Tokens))
}

// longer: a beginning and each token behind it.
func (l *teller) longer(prompt []int, b api.Beam) []api.Beam {
	l.Helper()
	var out []api.Beam
	logits := l.logits(slices.Concat(prompt, b.Tokens))
	for token, logit := range logits {
		out = append(out, api.Beam{Tokens: slices.Concat(b.Tokens, []int{token}), Gap: b.Gap + slices.Max(logits) - logit, Over: token == 0})
	}
	return out
}

// first: the first n continuations: of all beginnings that are known so far the first one is made longer, until n that come up are whole.
func (l *teller) first(prompt []int, n, most int) []api.Beam {
	l.Helper()
	var out []api.Beam
	begun := []api.Beam{{}}
	for len(begun) > 0 && len(out) < n {
		best := slices.MinFunc(begun, ahead)
		begun = slices.DeleteFunc(begun, func(b api.Beam) bool { return ahead(b, best) == 0 })
		if best.Over || len(best.Tokens) == most {
			out = append(out, best)
		} else {
			begun = append(begun, l.longer(prompt, best)...)
		}
	}
	return out
}

// all: every continuation, with the gaps of score's marks, in their order.
func (l *teller) all(prompt []int, most int) []api.Beam {
	l.Helper()
	tokens := make([]int, l.w.Config.Vocab)
	for token := range tokens {
		tokens[token] = token
	}
	var out []api.Beam
	for _, list := range testaid.Lists(most, tokens...)[1:] {
		end := slices.Index(list, 0)
		if end == len(list)-1 || end < 0 && len(list) == most {
			out = append(out, api.Beam{Tokens: list, Gap: l.gap(prompt, list), Over: end >= 0})
		}
	}
	slices.SortFunc(out, ahead)
	return out
}

// gap: of a continuation, by the marks of the text.
func (l *teller) gap(prompt, tokens []int) int64 {
	l.Helper()
	marks, e := score.Marks(l.m, slices.Concat(prompt, tokens))
	if e != api.OK {
		l.Fatalf("Marks answered the error %d", e)
	}
	var sum int64
	for _, mark := range marks[len(prompt)-1:] {
		sum += mark.Gap
	}
	return sum
}

// need: how many blocks are to be free.
func need(prompt, n, most, size int) int {
	blocks := 0
	for blocks*size < prompt+most {
		blocks++
	}
	return n * (blocks + 1)
}

func poolOf(t *testing.T, c api.Config, blocks, size int) *pool.Pool {
	t.Helper()
	p, e := pool.New(c.Layers, c.KV*c.Width/c.Heads, blocks, size)
	if e != api.OK {
		t.Fatalf("pool.New answered the error %d", e)
	}
	return p
}

// enough: a pool with just as many blocks as are asked for.
func (l *teller) enough(prompt []int, n, most, size int) *pool.Pool {
	l.Helper()
	return poolOf(l.T, l.w.Config, need(len(prompt), n, most, size), size)
}

// sizes: those of the blocks with which a pool may have as many as are asked for.
func sizes(prompt, n, most int) []int {
	var out []int
	for size := 1; size <= api.MaxBlock; size++ {
		if need(prompt, n, most, size) <= api.MaxBlocks {
			out = append(out, size)
		}
	}
	return out
}

func sameBeams(a, b []api.Beam) bool {
	return slices.EqualFunc(a, b, func(a, b api.Beam) bool {
		return slices.Equal(a.Tokens, b.Tokens) && a.Gap == b.Gap && a.Over == b.Over
	})
}

// beams: of a list of texts.
func beams(list ...api.Beam) []api.Beam { return list }

// found: what Search answers, which must be no error.
func (l *teller) found(p *pool.Pool, prompt []int, n, most int) []api.Beam {
	l.Helper()
	out, e := beam.Search(l.m, p, prompt, n, most)
	if e != api.OK {
		l.Fatalf("P26.1: %v: Search(%v, %d, %d) answered the error %d", l.w.Config, prompt, n, most, e)
	}
	return out
}

// finds: Search answers just these.
func (l *teller) finds(p *pool.Pool, prompt []int, n, most int, want []api.Beam) {
	l.Helper()
	if got := l.found(p, prompt, n, most); !sameBeams(got, want) {
		l.Fatalf("P26.3: %v: Search(%v, %d, %d) = %v, want %v", l.w.Config, prompt, n, most, got, want)
	}
}

// asWords: Search answers what the second writing says, over a pool that has just enough blocks of this size.
func (l *teller) asWords(prompt []int, n, most, size int) {
	l.Helper()
	l.finds(l.enough(prompt, n, most, size), prompt, n, most, l.first(prompt, n, most))
}

// refuses: Search answers this error, and nothing beside it.
func refuses(t *testing.T, m *model.Model, p *pool.Pool, prompt []int, n, most int, want api.Errno) {
	t.Helper()
	if got, e := beam.Search(m, p, prompt, n, most); e != want || len(got) != 0 {
		t.Errorf("P26.1: Search of %d tokens, %d, %d = %v, %d, want the error %d", len(prompt), n, most, got, e, want)
	}
}

// measures: the least and the greatest ones, and some between.
func measures() []api.Config {
	return []api.Config{
		{Vocab: 2, Width: 2, Heads: 1, KV: 1, Layers: 1, Hidden: 1, Len: 2, Medusa: 0},
		{Vocab: 2, Width: 2, Heads: 1, KV: 1, Layers: 1, Hidden: 1, Len: 24, Medusa: 1},
		{Vocab: 3, Width: 2, Heads: 1, KV: 1, Layers: 1, Hidden: 1, Len: 8, Medusa: 0},
		{Vocab: 5, Width: 8, Heads: 4, KV: 2, Layers: 2, Hidden: 3, Len: 12, Medusa: 2},
		{Vocab: 12, Width: 6, Heads: 1, KV: 1, Layers: 1, Hidden: 4, Len: 9, Medusa: 3},
		{Vocab: 40, Width: 4, Heads: 2, KV: 1, Layers: 3, Hidden: 5, Len: 16, Medusa: 0},
		{Vocab: 64, Width: 32, Heads: 4, KV: 4, Layers: 4, Hidden: 64, Len: 64, Medusa: 4},
	}
}

// small: those that are soon worked through.
func small() []api.Config { return measures()[:6] }

func ring(t *testing.T) *teller {
	t.Helper()
	return tellerOf(t, testaid.Ring())
}

// level: a model that likes all tokens alike.
func level(t *testing.T, vocab, long int) *teller {
	t.Helper()
	s := testaid.Source(2600)
	w := s.Weights(api.Config{Vocab: vocab, Width: 2, Heads: 1, KV: 1, Layers: 1, Hidden: 1, Len: long})
	clear(w.Head.Data)
	return tellerOf(t, w)
}

// drawn: so many tokens of a model of these measures.
func drawn(s *testaid.Source, c api.Config, n int) []int {
	text := make([]int, n)
	for i := range text {
		text[i] = s.Below(c.Vocab)
	}
	return text
}
