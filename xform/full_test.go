package xform_test

import (
	"math"
	"slices"
	"testing"

	"augur/api"
	"augur/model"
	"augur/testaid"
	"augur/xform"
)

// fully: Full of tokens that may be.
func fully(t *testing.T, m *model.Model, tokens []int) []api.Point {
	t.Helper()
	points, e := xform.Full(m, tokens)
	if e != api.OK || len(points) != len(tokens) {
		t.Fatalf("P8.1: Full(%v): %d points, error %d", tokens, len(points), e)
	}
	return points
}

func notFully(t *testing.T, m *model.Model, tokens []int, want api.Errno) {
	t.Helper()
	if points, e := xform.Full(m, tokens); e != want || len(points) != 0 {
		t.Errorf("P8.1: Full(%v): %v, error %d, want %d", tokens, points, e, want)
	}
}

func pointOf(hidden, k, v []int8) api.Point {
	return api.Point{Hidden: hidden, K: [][]int8{k}, V: [][]int8{v}}
}

func TestFullExamples(t *testing.T) {
	m := made(t, tinyWeights())
	one := pointOf([]int8{90, 0}, []int8{90, 0}, []int8{90, 0})
	two := pointOf([]int8{0, 90}, []int8{-90, 0}, []int8{0, 90})
	samePoints(t, "P8.1: example 1", fully(t, m, []int{1}), []api.Point{one})
	samePoints(t, "P8.1: example 2", fully(t, m, []int{1, 2}), []api.Point{one, two})
	notFully(t, m, []int{1, 1, 1, 1, 1}, api.ErrLong)
	notFully(t, m, []int{3}, api.ErrToken)
	samePoints(t, "P8.1: example 3", fully(t, m, nil), nil)
}

// Token 0 is nothing but zeros here: r is 1, and so are all its vectors zeros; as all scores are alike the second one's value is half of the first one's.
func TestFullOfEvenScores(t *testing.T) {
	points := fully(t, made(t, tinyWeights()), []int{1, 0})
	samePoint(t, "P8.1: a place with even scores", points[1], pointOf([]int8{90, 0}, []int8{0, 0}, []int8{0, 0}))
	w := tinyWeights()
	w.Layers[0].O.Data = []int8{0, 1, 1, 0}
	// x becomes (0, 45): the mean of squares is 1012, its root 31, r 32: 45 times 64 over 32 is 90.
	points = fully(t, made(t, w), []int{1, 0})
	samePoint(t, "P8.1: a place with even scores", points[1], pointOf([]int8{0, 90}, []int8{0, 0}, []int8{0, 0}))
}

// x is (6016, 0) behind step 4, so b is (90, 0) and y 5760: shifted by 4 it is 360, of which Silu is 289; u is 5760 shifted by 7: 45; h is 289 times 45, 13005, shifted by 7: 102. D gives 64 times 102, 6528, shifted by 1: x is (6016, 3264). The mean of squares is 23422976, its root 4839, r 4840: 79 and 43.
func TestFullOfHiddenNumbers(t *testing.T) {
	w := tinyWeights()
	l := &w.Layers[0]
	l.G.Data, l.U.Data, l.D.Data = []int8{64, 0}, []int8{64, 0}, []int8{0, 64}
	l.By = api.Shifts{6, 6, 6, 0, 4, 7, 1}
	samePoints(t, "P8.1: hidden numbers", fully(t, made(t, w), []int{1}), []api.Point{pointOf([]int8{79, 43}, []int8{90, 0}, []int8{90, 0})})
}

func TestFullIsWhatTheWordsSay(t *testing.T) {
	s := testaid.Source(801)
	for _, c := range measures() {
		for range 3 {
			m, words := drawnModel(t, &s, c)
			for _, n := range []int{0, 1, 1 + s.Below(c.Len), c.Len} {
				tokens := drawnText(&s, c, n)
				samePoints(t, "P8.1: Full", fully(t, m, tokens), words.full(tokens))
			}
		}
	}
}

// Any shifts, and turns and matrices at the ends of what may be: so numbers are clamped on the way.
func TestFullOfHardWeights(t *testing.T) {
	s := testaid.Source(802)
	for _, c := range measures() {
		for _, mark := range []int8{-127, 127} {
			w := s.Weights(c)
			for i := range w.Layers {
				testaid.Overwrite(w.Layers[i].V.Data, mark)
				testaid.Overwrite(w.Layers[i].D.Data, -mark)
				w.Layers[i].By[2], w.Layers[i].By[6] = 0, 0
			}
			testaid.Overwrite(w.Turns, api.Turn{C: api.Unit, S: -api.Unit})
			tokens := drawnText(&s, c, c.Len)
			samePoints(t, "P8.1: Full of hard weights", fully(t, made(t, w), tokens), wordsOf{t, w}.full(tokens))
		}
	}
}

func TestFullRefuses(t *testing.T) {
	s := testaid.Source(803)
	for _, c := range measures() {
		m, _ := drawnModel(t, &s, c)
		for _, bad := range []int{-1, c.Vocab, math.MinInt, math.MaxInt, -c.Vocab, c.Vocab + 1<<32} {
			notFully(t, m, []int{bad}, api.ErrToken)
			for range 3 {
				tokens := drawnText(&s, c, c.Len)
				tokens[s.Below(c.Len)] = bad
				notFully(t, m, tokens, api.ErrToken)
				notFully(t, m, append(tokens, 0), api.ErrLong)
				notFully(t, nil, tokens, api.ErrArg)
			}
			tokens := append(drawnText(&s, c, c.Len), bad)
			notFully(t, m, tokens, api.ErrLong)
			notFully(t, nil, tokens, api.ErrArg)
		}
		notFully(t, m, drawnText(&s, c, c.Len+1), api.ErrLong)
		notFully(t, m, make([]int, 100000), api.ErrLong)
		fully(t, m, drawnText(&s, c, c.Len))
		fully(t, m, []int{0})
		fully(t, m, []int{c.Vocab - 1})
	}
	notFully(t, nil, nil, api.ErrArg)
	notFully(t, nil, []int{0}, api.ErrArg)
}

func TestFullOfNothing(t *testing.T) {
	s := testaid.Source(804)
	for _, c := range measures() {
		m, _ := drawnModel(t, &s, c)
		fully(t, m, nil)
		fully(t, m, []int{})
	}
}

func TestFullOfABeginning(t *testing.T) {
	s := testaid.Source(805)
	for _, c := range measures() {
		m, _ := drawnModel(t, &s, c)
		tokens := drawnText(&s, c, c.Len)
		all := fully(t, m, tokens)
		for _, n := range []int{0, s.Below(c.Len), c.Len - 1} {
			samePoints(t, "what follows: Full of a beginning", fully(t, m, tokens[:n]), all[:n])
		}
	}
}

// Were the answers alike whatever is seen, the other tests would tell little.
func TestWhatIsSeenCounts(t *testing.T) {
	s := testaid.Source(806)
	for _, c := range measures()[2:] {
		m, _ := drawnModel(t, &s, c)
		differ := 0
		for range 10 {
			tokens := drawnText(&s, c, 9)
			once := fully(t, m, tokens)
			at := s.Below(8)
			tokens[at] = (tokens[at] + 1) % c.Vocab
			again := fully(t, m, tokens)
			if !slices.Equal(once[8].Hidden, again[8].Hidden) {
				differ++
			}
		}
		if differ < 5 {
			t.Errorf("of 10 changes of an earlier token %d changed the last vector of %v", differ, c)
		}
	}
}
