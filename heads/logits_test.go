package heads_test

import (
	"slices"
	"testing"

	"augur/api"
	"augur/heads"
	"augur/model"
	"augur/testaid"
)

// times: a matrix's number of each row, as chapter 3 says it.
func times(m api.Mat, v []int8) []int64 {
	out := make([]int64, m.Rows)
	for r := range out {
		for c, x := range v {
			out[r] += int64(m.Data[r*m.Cols+c]) * int64(x)
		}
	}
	return out
}

// measures: small and great ones, without Medusa matrices, with one and with several.
func measures() []api.Config {
	return []api.Config{
		{Vocab: 2, Width: 2, Heads: 1, KV: 1, Layers: 1, Hidden: 1, Len: 1, Medusa: 0},
		{Vocab: 3, Width: 2, Heads: 1, KV: 1, Layers: 1, Hidden: 1, Len: 8, Medusa: 1},
		{Vocab: 2, Width: 8, Heads: 4, KV: 2, Layers: 2, Hidden: 3, Len: 5, Medusa: 2},
		{Vocab: 7, Width: 6, Heads: 1, KV: 1, Layers: 1, Hidden: 4, Len: 9, Medusa: 3},
		{Vocab: 64, Width: 32, Heads: 4, KV: 4, Layers: 4, Hidden: 64, Len: 64, Medusa: 4},
		{Vocab: 64, Width: 32, Heads: 2, KV: 1, Layers: 1, Hidden: 1, Len: 64, Medusa: 0},
	}
}

func newModel(t *testing.T, w api.Weights) *model.Model {
	t.Helper()
	m, e := model.New(w)
	if e != api.OK {
		t.Fatalf("New answered the error %d", e)
	}
	return m
}

// logitsOf: what Logits answers, which must be no error.
func logitsOf(t *testing.T, m *model.Model, hidden []int8) []int64 {
	t.Helper()
	logits, e := heads.Logits(m, hidden)
	if e != api.OK {
		t.Fatalf("P9.1: Logits(.., %v) answered the error %d", hidden, e)
	}
	return logits
}

// guessesOf: what Guesses answers, which must be no error.
func guessesOf(t *testing.T, m *model.Model, hidden []int8) [][]int64 {
	t.Helper()
	guesses, e := heads.Guesses(m, hidden)
	if e != api.OK {
		t.Fatalf("P9.2: Guesses(.., %v) answered the error %d", hidden, e)
	}
	return guesses
}

// asWords: Logits and Guesses are the products of the weights' matrices and the vector.
func asWords(t *testing.T, m *model.Model, w api.Weights, hidden []int8) {
	t.Helper()
	if got, want := logitsOf(t, m, hidden), times(w.Head, hidden); !slices.Equal(got, want) {
		t.Errorf("P9.1: %v: Logits(.., %v) = %v, want %v", w.Config, hidden, got, want)
	}
	guesses := guessesOf(t, m, hidden)
	if len(guesses) != w.Config.Medusa {
		t.Fatalf("P9.2: %v: Guesses(.., %v) = %v", w.Config, hidden, guesses)
	}
	for i, head := range w.Medusa {
		if want := times(head, hidden); !slices.Equal(guesses[i], want) {
			t.Errorf("P9.2: %v: number %d of Guesses(.., %v) = %v, want %v", w.Config, i, hidden, guesses[i], want)
		}
	}
}

// refused: Logits and Guesses answer this error, and nothing beside it.
func refused(t *testing.T, m *model.Model, hidden []int8, want api.Errno) {
	t.Helper()
	if logits, e := heads.Logits(m, hidden); e != want || len(logits) != 0 {
		t.Errorf("P9.1: Logits of %d numbers = %v, %d, want the error %d", len(hidden), logits, e, want)
	}
	if guesses, e := heads.Guesses(m, hidden); e != want || len(guesses) != 0 {
		t.Errorf("P9.2: Guesses of %d numbers = %v, %d, want the error %d", len(hidden), guesses, e, want)
	}
}

// example: the chapter's third one: a Head of 3 rows and 2 columns, and no Medusa matrix but those handed in.
func example(medusa ...api.Mat) api.Weights {
	c := measures()[1]
	c.Medusa = len(medusa)
	s := testaid.Source(90)
	w := s.Weights(c)
	w.Head = api.Mat{Rows: 3, Cols: 2, Data: []int8{1, 0, 0, 1, -1, -1}}
	w.Medusa = medusa
	return w
}

func TestProductExamples(t *testing.T) {
	m := newModel(t, example())
	if got := logitsOf(t, m, []int8{7, -2}); !slices.Equal(got, []int64{7, -2, -5}) {
		t.Errorf("P9.1: Logits(.., 7 -2) = %v", got)
	}
	refused(t, m, []int8{7, -2, 0}, api.ErrShape)
}

func TestGuessesInTurn(t *testing.T) {
	first := api.Mat{Rows: 3, Cols: 2, Data: []int8{2, 0, 0, 2, 1, 1}}
	second := api.Mat{Rows: 3, Cols: 2, Data: []int8{0, 1, 1, 0, 127, -127}}
	for _, c := range []struct {
		medusa []api.Mat
		want   [][]int64
	}{
		{nil, nil},
		{[]api.Mat{first}, [][]int64{{14, -4, 5}}},
		{[]api.Mat{first, second}, [][]int64{{14, -4, 5}, {-2, 7, 1143}}},
		{[]api.Mat{second, first}, [][]int64{{-2, 7, 1143}, {14, -4, 5}}},
		{[]api.Mat{second, second, first, second}, [][]int64{{-2, 7, 1143}, {-2, 7, 1143}, {14, -4, 5}, {-2, 7, 1143}}},
	} {
		m := newModel(t, example(c.medusa...))
		if got := guessesOf(t, m, []int8{7, -2}); !slices.EqualFunc(got, c.want, slices.Equal) {
			t.Errorf("P9.2: Guesses(.., 7 -2) = %v, want %v", got, c.want)
		}
		if got := logitsOf(t, m, []int8{7, -2}); !slices.Equal(got, []int64{7, -2, -5}) {
			t.Errorf("P9.1: Logits(.., 7 -2) beside %d Medusa matrices = %v", len(c.medusa), got)
		}
	}
}

// The model ring of DOC.md: of the vector behind a token the logit of what follows is 12700, all others 0.
func TestRing(t *testing.T) {
	s := testaid.Source(91)
	w := s.Weights(api.Config{Vocab: 4, Width: 4, Heads: 1, KV: 1, Layers: 1, Hidden: 1, Len: 16, Medusa: 1})
	w.Head.Data = []int8{100, 0, 0, 0, 0, 0, 0, 100, 0, 100, 0, 0, 0, 0, 100, 0}
	w.Medusa[0].Data = []int8{100, 0, 0, 0, 0, 0, 100, 0, 0, 0, 0, 100, 0, 100, 0, 0}
	m := newModel(t, w)
	next := []int{0, 2, 3, 1}
	for token := range next {
		hidden := make([]int8, 4)
		hidden[token] = 127
		want, later := make([]int64, 4), make([]int64, 4)
		want[next[token]], later[next[next[token]]] = 12700, 12700
		if got := logitsOf(t, m, hidden); !slices.Equal(got, want) {
			t.Errorf("P9.1: Logits behind %d = %v, want %v", token, got, want)
		}
		if got := guessesOf(t, m, hidden); len(got) != 1 || !slices.Equal(got[0], later) {
			t.Errorf("P9.2: Guesses behind %d = %v, want %v", token, got, later)
		}
	}
}

func TestProducts(t *testing.T) {
	s := testaid.Source(92)
	for _, c := range measures() {
		for range 20 {
			w := s.Weights(c)
			m := newModel(t, w)
			asWords(t, m, w, s.Narrow(c.Width))
			asWords(t, m, w, make([]int8, c.Width))
			loose := s.Narrow(c.Width)
			loose[s.Below(c.Width)] = -128
			asWords(t, m, w, loose)
		}
	}
}

func fill(n int, x int8) []int8 { return slices.Repeat([]int8{x}, n) }

func TestProductsAtTheEnds(t *testing.T) {
	s := testaid.Source(93)
	for _, c := range measures() {
		for _, of := range []int8{-127, 127} {
			w := s.Weights(c)
			w.Head.Data = fill(c.Vocab*c.Width, of)
			for i := range w.Medusa {
				w.Medusa[i].Data = fill(c.Vocab*c.Width, of)
			}
			m := newModel(t, w)
			for _, x := range []int8{-128, -127, 0, 127} {
				asWords(t, m, w, fill(c.Width, x))
				want := int64(c.Width) * int64(of) * int64(x)
				if got := logitsOf(t, m, fill(c.Width, x)); slices.Min(got) != want || slices.Max(got) != want {
					t.Errorf("P9.1: %d times %d = %v, want %d each", of, x, got, want)
				}
			}
		}
	}
}

func TestVectorsThatDoNotFit(t *testing.T) {
	s := testaid.Source(94)
	for _, c := range measures() {
		w := s.Weights(c)
		m := newModel(t, w)
		for _, n := range []int{0, 1, c.Width - 1, c.Width + 1, 2 * c.Width, c.Vocab, 1 << 20} {
			if n != c.Width {
				refused(t, m, s.Narrow(n), api.ErrShape)
			}
		}
		refused(t, m, nil, api.ErrShape)
		refused(t, m, []int8{}, api.ErrShape)
		asWords(t, m, w, s.Narrow(c.Width))
	}
}

// Without a model no vector fits, and the model is told first.
func TestNoModel(t *testing.T) {
	for _, hidden := range [][]int8{nil, {}, {1}, {1, 2}, {-128, 127, 0, 5}, make([]int8, 32), make([]int8, 1<<20)} {
		refused(t, nil, hidden, api.ErrArg)
	}
}

// A model that was read from its file says the same.
func TestLoadedModel(t *testing.T) {
	s := testaid.Source(95)
	for _, c := range measures() {
		w := s.Weights(c)
		b, e := model.Encode(w)
		if e != api.OK {
			t.Fatalf("Encode answered the error %d", e)
		}
		m, e := model.Load(b)
		if e != api.OK {
			t.Fatalf("Load answered the error %d", e)
		}
		asWords(t, m, w, s.Narrow(c.Width))
	}
}
