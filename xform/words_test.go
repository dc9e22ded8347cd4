package xform_test

import (
	"slices"
	"testing"

	"augur/api"
	"augur/fix"
	"augur/model"
	"augur/tensor"
	"augur/testaid"
)

// What the chapter's words say, number by number: the tests hold the program against this.

// fine: an answer of tensor; of a model none of its calls answers an error.
func fine[T any](t *testing.T) func(x T, e api.Errno) T {
	return func(x T, e api.Errno) T {
		t.Helper()
		if e != api.OK {
			t.Fatalf("of a model a call of tensor answered the error %d", e)
		}
		return x
	}
}

// wordsOf: how a model's tokens go through its layers.
type wordsOf struct {
	t *testing.T
	w api.Weights
}

func (o wordsOf) size() int { return o.w.Config.Width / o.w.Config.Heads }

func (o wordsOf) matVec(m api.Mat, v []int8) []int64 {
	o.t.Helper()
	return fine[[]int64](o.t)(tensor.MatVec(m, v))
}

func (o wordsOf) narrow(m api.Mat, v []int8, by int) []int8 {
	o.t.Helper()
	return fine[[]int8](o.t)(tensor.Narrow(o.matVec(m, v), by))
}

func (o wordsOf) norm(x []int64, gains []int8) []int8 {
	o.t.Helper()
	return fine[[]int8](o.t)(tensor.Norm(x, gains))
}

func (o wordsOf) first(token int) []int64 {
	x := make([]int64, o.w.Config.Width)
	for i := range x {
		x[i] = 256 * int64(o.w.Embed.Data[token*o.w.Config.Width+i])
	}
	return x
}

func (o wordsOf) turn(v []int8, pos int) []int8 {
	turns := fine[[][]api.Turn](o.t)(tensor.Turns(o.w.Turns, pos+1))[pos]
	out := slices.Clone(v)
	for h := 0; h*o.size() < len(v); h++ {
		copy(out[h*o.size():], fine[[]int8](o.t)(tensor.Rotate(v[h*o.size():][:o.size()], turns)))
	}
	return out
}

// asks: what the steps 1 and 2 of a layer make of x at a position.
func (o wordsOf) asks(layer int, x []int64, pos int) (q, k, v []int8) {
	l := o.w.Layers[layer]
	a := o.norm(x, l.Norm1)
	return o.turn(o.narrow(l.Q, a, l.By[0]), pos), o.turn(o.narrow(l.K, a, l.By[1]), pos), o.narrow(l.V, a, l.By[2])
}

// takes: what the steps 3 to 5 of a layer make of x, once it sees keys and values.
func (o wordsOf) takes(layer int, x []int64, q []int8, keys, values [][]int8) []int64 {
	l, c, s := o.w.Layers[layer], o.w.Config, o.size()
	var seen []int8
	for h := range c.Heads {
		g := h * c.KV / c.Heads
		scores := make([]int64, len(keys))
		part := make([][]int8, len(values))
		for i := range keys {
			for j := range s {
				scores[i] += int64(q[h*s+j]) * int64(keys[i][g*s+j])
			}
			part[i] = values[i][g*s : g*s+s]
		}
		weights, _ := tensor.Softmax(scores)
		seen = append(seen, fine[[]int8](o.t)(tensor.Blend(weights, part))...)
	}
	out := slices.Clone(x)
	for i, n := range o.matVec(l.O, seen) {
		out[i] += fix.Shift(n, l.By[3])
	}
	b := o.norm(out, l.Norm2)
	y, u, h := o.matVec(l.G, b), o.narrow(l.U, b, l.By[5]), make([]int8, c.Hidden)
	for i := range h {
		h[i] = fix.Clamp8(fix.Shift(fix.Silu(fix.Shift(y[i], l.By[4]))*int64(u[i]), 7))
	}
	for i, n := range o.matVec(l.D, h) {
		out[i] += fix.Shift(n, l.By[6])
	}
	return out
}

// full: the points of a text, place by place: each goes all its way ahead of the next.
func (o wordsOf) full(tokens []int) []api.Point {
	var points []api.Point
	for p, token := range tokens {
		var at api.Point
		x := o.first(token)
		for layer := range o.w.Layers {
			q, k, v := o.asks(layer, x, p)
			at.K, at.V = append(at.K, k), append(at.V, v)
			var keys, values [][]int8
			for _, seen := range append(slices.Clone(points), at) {
				keys, values = append(keys, seen.K[layer]), append(values, seen.V[layer])
			}
			x = o.takes(layer, x, q, keys, values)
		}
		at.Hidden = o.norm(x, o.w.Final)
		points = append(points, at)
	}
	return points
}

// shelf: what stands in slots: by layer and slot keys and values.
type shelf map[[2]int][2][]int8

// pass: the last vectors of items that may be; their keys and values go to the shelf.
func (o wordsOf) pass(on shelf, items []api.Item) [][]int8 {
	xs, qs := make([][]int64, len(items)), make([][]int8, len(items))
	for i, item := range items {
		xs[i] = o.first(item.Token)
	}
	for layer := range o.w.Layers {
		for i, item := range items {
			q, k, v := o.asks(layer, xs[i], item.Pos)
			qs[i], on[[2]int{layer, item.Slot}] = q, [2][]int8{k, v}
		}
		for i, item := range items {
			var keys, values [][]int8
			met := map[int]bool{}
			for _, slot := range append([]int{item.Slot}, item.See...) {
				if !met[slot] {
					met[slot] = true
					keys, values = append(keys, on[[2]int{layer, slot}][0]), append(values, on[[2]int{layer, slot}][1])
				}
			}
			xs[i] = o.takes(layer, xs[i], qs[i], keys, values)
		}
	}
	var out [][]int8
	for _, x := range xs {
		out = append(out, o.norm(x, o.w.Final))
	}
	return out
}

// measures: of models with one and several heads, keys' heads and layers, the least and the greatest.
func measures() []api.Config {
	return []api.Config{
		{Vocab: 2, Width: 2, Heads: 1, KV: 1, Layers: 1, Hidden: 1, Len: 1},
		{Vocab: 3, Width: 4, Heads: 2, KV: 1, Layers: 1, Hidden: 2, Len: 9},
		{Vocab: 7, Width: 8, Heads: 4, KV: 2, Layers: 2, Hidden: 5, Len: 20},
		{Vocab: 5, Width: 6, Heads: 1, KV: 1, Layers: 3, Hidden: 3, Len: 12, Medusa: 2},
		{Vocab: 9, Width: 12, Heads: 3, KV: 1, Layers: 2, Hidden: 7, Len: 16},
		{Vocab: 9, Width: 12, Heads: 3, KV: 3, Layers: 2, Hidden: 7, Len: 16},
		{Vocab: 16, Width: 16, Heads: 4, KV: 1, Layers: 1, Hidden: 20, Len: 24},
		{Vocab: 11, Width: 16, Heads: 2, KV: 2, Layers: 4, Hidden: 4, Len: 30},
		{Vocab: 64, Width: 32, Heads: 4, KV: 4, Layers: 4, Hidden: 64, Len: 64, Medusa: 4},
	}
}

// drawnWeights: of these measures, with shifts that leave numbers of a middling size, and with turns of size one (but for some), so that each seen slot counts.
func drawnWeights(s *testaid.Source, c api.Config) api.Weights {
	w := s.Weights(c)
	rounds := []api.Turn{{C: 15137, S: 6270}, {C: 16069, S: -3196}, {C: 11585, S: 11585}, {C: 0, S: -16384}, {C: -16379, S: 402}}
	for i := range w.Turns {
		if s.Below(5) > 0 {
			w.Turns[i] = rounds[s.Below(len(rounds))]
		}
	}
	least := api.Shifts{9, 8, 6, 0, 3, 6, 0}
	for i := range w.Layers {
		for j, by := range least {
			w.Layers[i].By[j] = by + s.Below(4)
		}
	}
	return w
}

// made: the model of weights that fit.
func made(t *testing.T, w api.Weights) *model.Model {
	t.Helper()
	m, e := model.New(w)
	if e != api.OK {
		t.Fatalf("no model: error %d", e)
	}
	return m
}

func drawnModel(t *testing.T, s *testaid.Source, c api.Config) (*model.Model, wordsOf) {
	t.Helper()
	w := drawnWeights(s, c)
	return made(t, w), wordsOf{t, w}
}

// tinyWeights: the chapter's example.
func tinyWeights() api.Weights {
	square := func() api.Mat { return api.Mat{Rows: 2, Cols: 2, Data: []int8{64, 0, 0, 64}} }
	flat := func(rows, cols int) api.Mat { return api.Mat{Rows: rows, Cols: cols, Data: make([]int8, rows*cols)} }
	gains := func() []int8 { return []int8{64, 64} }
	return api.Weights{
		Config: api.Config{Vocab: 3, Width: 2, Heads: 1, KV: 1, Layers: 1, Hidden: 1, Len: 4},
		Embed:  api.Mat{Rows: 3, Cols: 2, Data: []int8{0, 0, 1, 0, 0, 1}},
		Turns:  []api.Turn{{C: 0, S: 16384}},
		Layers: []api.Layer{{
			Norm1: gains(), Norm2: gains(), Q: square(), K: square(), V: square(), O: square(),
			G: flat(1, 2), U: flat(1, 2), D: flat(2, 1), By: api.Shifts{6, 6, 6, 0, 0, 0, 0},
		}},
		Final: gains(),
		Head:  flat(3, 2),
	}
}

func drawnText(s *testaid.Source, c api.Config, n int) []int {
	tokens := make([]int, n)
	for i := range tokens {
		tokens[i] = s.Below(c.Vocab)
	}
	return tokens
}

func sameVectors(t *testing.T, what string, got, want [][]int8) {
	t.Helper()
	if !slices.EqualFunc(got, want, slices.Equal) {
		t.Errorf("%s: %v, want %v", what, got, want)
	}
}

func samePoint(t *testing.T, what string, got, want api.Point) {
	t.Helper()
	sameVectors(t, what+": Hidden", [][]int8{got.Hidden}, [][]int8{want.Hidden})
	sameVectors(t, what+": K", got.K, want.K)
	sameVectors(t, what+": V", got.V, want.V)
}

func samePoints(t *testing.T, what string, got, want []api.Point) {
	t.Helper()
	if len(got) != len(want) {
		t.Fatalf("%s: %d points, want %d", what, len(got), len(want))
	}
	for p := range want {
		samePoint(t, what, got[p], want[p])
	}
}
