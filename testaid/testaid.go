// Package testaid: what the tests of several layers need: numbers that look drawn, weights made of them, trees, lists, vocabularies, and means to see whether memory is shared.
package testaid

import (
	"slices"

	"augur/api"
)

// Source gives numbers that look drawn, the same in each run.
type Source uint64

// Next: 47 bits.
func (s *Source) Next() uint64 {
	*s = *s*6364136223846793005 + 1442695040888963407
	return uint64(*s >> 17)
}

// Below: a number from 0 to n - 1.
func (s *Source) Below(n int) int { return int(s.Next() % uint64(n)) }

// Narrow: n numbers from -127 to 127.
func (s *Source) Narrow(n int) []int8 {
	out := make([]int8, n)
	for i := range out {
		out[i] = int8(s.Below(255) - 127)
	}
	return out
}

// Matrix: one of narrow numbers.
func (s *Source) Matrix(rows, cols int) api.Mat {
	return api.Mat{Rows: rows, Cols: cols, Data: s.Narrow(rows * cols)}
}

// Layer: the weights of one.
func (s *Source) Layer(c api.Config) api.Layer {
	w, kv := c.Width, c.KV*(c.Width/c.Heads)
	l := api.Layer{
		Norm1: s.Narrow(w), Norm2: s.Narrow(w),
		Q: s.Matrix(w, w), K: s.Matrix(kv, w), V: s.Matrix(kv, w), O: s.Matrix(w, w),
		G: s.Matrix(c.Hidden, w), U: s.Matrix(c.Hidden, w), D: s.Matrix(w, c.Hidden),
	}
	for i := range l.By {
		l.By[i] = s.Below(api.MaxShift + 1)
	}
	return l
}

// Weights: some that fit measures that may be.
func (s *Source) Weights(c api.Config) api.Weights {
	w := api.Weights{Config: c, Embed: s.Matrix(c.Vocab, c.Width), Final: s.Narrow(c.Width), Head: s.Matrix(c.Vocab, c.Width)}
	for range c.Width / c.Heads / 2 {
		turn := api.Turn{C: int64(s.Below(2*api.Unit+1) - api.Unit), S: int64(s.Below(2*api.Unit+1) - api.Unit)}
		w.Turns = append(w.Turns, turn)
	}
	for range c.Layers {
		w.Layers = append(w.Layers, s.Layer(c))
	}
	for range c.Medusa {
		w.Medusa = append(w.Medusa, s.Matrix(c.Vocab, c.Width))
	}
	return w
}

// Nodes: of a list of parents, tokens and depths, one behind the other.
func Nodes(numbers ...int) []api.Node {
	var out []api.Node
	for i := 0; i < len(numbers); i += 3 {
		out = append(out, api.Node{Parent: numbers[i], Token: numbers[i+1], Depth: numbers[i+2]})
	}
	return out
}

// Chain: a tree of one node behind the other, so many with the root.
func Chain(n int) []api.Node {
	var out []api.Node
	for i := range n {
		out = append(out, api.Node{Parent: i - 1, Token: 1 + i%5, Depth: i})
	}
	return out
}

// Star: a tree of the root and so many children less one.
func Star(n int) []api.Node {
	out := Chain(1)
	for i := 1; i < n; i++ {
		out = append(out, api.Node{Token: i, Depth: 1})
	}
	return out
}

// Lists: all lists of at most so many of the numbers.
func Lists(most int, numbers ...int) [][]int {
	all := [][]int{nil}
	for from := 0; most > 0; most-- {
		end := len(all)
		for _, list := range all[from:end] {
			for _, x := range numbers {
				all = append(all, append(slices.Clone(list), x))
			}
		}
		from = end
	}
	return all
}

// Roomy: the list with spare room behind its end, in which mark stands.
func Roomy[T any](x []T, mark T) []T {
	full := append(slices.Clone(x), mark, mark, mark)
	return full[:len(x)]
}

// Guard keeps how a list and its spare room are; the answered function tells whether they still are so.
func Guard[T comparable](x []T) func() bool {
	was := slices.Clone(x[:cap(x)])
	return func() bool { return slices.Equal(x[:cap(x)], was) }
}

// Overwrite writes all over a list, its spare room too.
func Overwrite[T any](x []T, mark T) {
	full := x[:cap(x)]
	for i := range full {
		full[i] = mark
	}
}
