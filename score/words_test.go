package score_test

import (
	"slices"
	"testing"

	"augur/api"
	"augur/model"
	"augur/score"
	"augur/testaid"
	"augur/xform"
)

// The chapter's words, said a second time: the logits at each place out of the tokens ahead of it alone, ranks by counting.

// logitsAt: those at a place, from 1 on.
func logitsAt(t *testing.T, m *model.Model, w api.Weights, tokens []int, place int) []int64 {
	t.Helper()
	points, e := xform.Full(m, tokens[:place])
	if e != api.OK {
		t.Fatalf("Full(%v) answered the error %d", tokens[:place], e)
	}
	logits := make([]int64, w.Head.Rows)
	for row := range logits {
		for col, x := range points[place-1].Hidden {
			logits[row] += int64(w.Head.Data[row*w.Head.Cols+col]) * int64(x)
		}
	}
	return logits
}

// wordsMark: a token's rank and gap.
func wordsMark(logits []int64, token int) api.Mark {
	var mark api.Mark
	for other, logit := range logits {
		if logit > logits[token] || logit == logits[token] && other < token {
			mark.Rank++
		}
		mark.Gap = max(mark.Gap, logit-logits[token])
	}
	return mark
}

// wordsMarks: what Marks is to answer of a text that may be.
func wordsMarks(t *testing.T, m *model.Model, w api.Weights, tokens []int) []api.Mark {
	t.Helper()
	var marks []api.Mark
	for place := 1; place < len(tokens); place++ {
		marks = append(marks, wordsMark(logitsAt(t, m, w, tokens, place), tokens[place]))
	}
	return marks
}

// wordsError: of a text, for a model of these measures.
func wordsError(c api.Config, tokens []int) api.Errno {
	switch {
	case len(tokens) == 0:
		return api.ErrEmpty
	case len(tokens) > c.Len:
		return api.ErrLong
	case slices.Min(tokens) < 0 || slices.Max(tokens) >= c.Vocab:
		return api.ErrToken
	}
	return api.OK
}

// added: the gaps of some marks, added up.
func added(marks []api.Mark) int64 {
	var sum int64
	for _, mark := range marks {
		sum += mark.Gap
	}
	return sum
}

// firstError: of the first text that has one.
func firstError(c api.Config, texts [][]int) api.Errno {
	for _, text := range texts {
		if e := wordsError(c, text); e != api.OK {
			return e
		}
	}
	return api.OK
}

// wordsBest: what Best is to answer of texts of which there are some.
func wordsBest(t *testing.T, m *model.Model, w api.Weights, texts [][]int) (int, api.Errno) {
	t.Helper()
	if e := firstError(w.Config, texts); e != api.OK {
		return 0, e
	}
	best, least := 0, int64(0)
	for place, text := range texts {
		if sum := added(wordsMarks(t, m, w, text)); place == 0 || sum < least {
			best, least = place, sum
		}
	}
	return best, api.OK
}

// measures: the least and the greatest ones, and some between.
func measures() []api.Config {
	return []api.Config{
		{Vocab: 2, Width: 2, Heads: 1, KV: 1, Layers: 1, Hidden: 1, Len: 1, Medusa: 0},
		{Vocab: 2, Width: 2, Heads: 1, KV: 1, Layers: 1, Hidden: 1, Len: 2, Medusa: 1},
		{Vocab: 3, Width: 2, Heads: 1, KV: 1, Layers: 1, Hidden: 1, Len: 8, Medusa: 0},
		{Vocab: 5, Width: 8, Heads: 4, KV: 2, Layers: 2, Hidden: 3, Len: 5, Medusa: 2},
		{Vocab: 12, Width: 6, Heads: 1, KV: 1, Layers: 1, Hidden: 4, Len: 9, Medusa: 3},
		{Vocab: 40, Width: 4, Heads: 2, KV: 1, Layers: 3, Hidden: 5, Len: 20, Medusa: 0},
		{Vocab: 64, Width: 32, Heads: 4, KV: 4, Layers: 4, Hidden: 64, Len: 64, Medusa: 4},
	}
}

func made(t *testing.T, w api.Weights) *model.Model {
	t.Helper()
	m, e := model.New(w)
	if e != api.OK {
		t.Fatalf("New answered the error %d", e)
	}
	return m
}

func ring(t *testing.T) *model.Model {
	t.Helper()
	return made(t, testaid.Ring())
}

// drawnText: so many tokens of a model of these measures.
func drawnText(s *testaid.Source, c api.Config, n int) []int {
	text := make([]int, n)
	for i := range text {
		text[i] = s.Below(c.Vocab)
	}
	return text
}

// drawnTexts: so many, each of 1 to most tokens; some twice, some beginnings of others.
func drawnTexts(s *testaid.Source, c api.Config, n, most int) [][]int {
	var texts [][]int
	for len(texts) < n {
		text := drawnText(s, c, 1+s.Below(most))
		if len(texts) > 0 && s.Below(3) == 0 {
			text = texts[s.Below(len(texts))]
			text = text[:1+s.Below(len(text))]
		}
		texts = append(texts, text)
	}
	return texts
}

// marked: what Marks answers, which must be no error.
func marked(t *testing.T, m *model.Model, tokens []int) []api.Mark {
	t.Helper()
	marks, e := score.Marks(m, tokens)
	if e != api.OK {
		t.Fatalf("P24.1: Marks(%v) answered the error %d", tokens, e)
	}
	return marks
}

// marksAre: Marks answers just these ranks and gaps, one behind the other.
func marksAre(t *testing.T, m *model.Model, tokens []int, numbers ...int) {
	t.Helper()
	var want []api.Mark
	for i := 0; i < len(numbers); i += 2 {
		want = append(want, api.Mark{Rank: numbers[i], Gap: int64(numbers[i+1])})
	}
	if got := marked(t, m, tokens); !slices.Equal(got, want) {
		t.Errorf("P24.1: Marks(%v) = %v, want %v", tokens, got, want)
	}
}

// marksAsWords: Marks answers what the second writing says.
func marksAsWords(t *testing.T, m *model.Model, w api.Weights, tokens []int) {
	t.Helper()
	if got, want := marked(t, m, tokens), wordsMarks(t, m, w, tokens); !slices.Equal(got, want) {
		t.Fatalf("P24.1: %v: Marks(%v) = %v, want %v", w.Config, tokens, got, want)
	}
}

// notMarked: Marks answers this error, and nothing beside it.
func notMarked(t *testing.T, m *model.Model, tokens []int, want api.Errno) {
	t.Helper()
	if marks, e := score.Marks(m, tokens); e != want || len(marks) != 0 {
		t.Errorf("P24.1: Marks of %d tokens = %v, %d, want the error %d", len(tokens), marks, e, want)
	}
}

// bestIs: Best answers this place and this error.
func bestIs(t *testing.T, m *model.Model, place int, want api.Errno, texts ...[]int) {
	t.Helper()
	if got, e := score.Best(m, texts...); got != place || e != want {
		t.Errorf("P24.2: Best of %d texts = %d, %d, want %d, %d", len(texts), got, e, place, want)
	}
}

// bestAsWords: Best answers what the second writing says.
func bestAsWords(t *testing.T, m *model.Model, w api.Weights, texts ...[]int) {
	t.Helper()
	place, e := wordsBest(t, m, w, texts)
	bestIs(t, m, place, e, texts...)
}
