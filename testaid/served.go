package testaid

import (
	"slices"

	"augur/api"
	"augur/guide"
	"augur/heads"
	"augur/model"
	"augur/pick"
	"augur/xform"
)

// What the tests of all layers need that answer requests.

// Greedy: DOC.md's.
var Greedy = api.Params{TopP: 1000, Penalty: 256}

// Ref: DOC.md's Ref of a request: one token at a time, without a cache.
func Ref(m *model.Model, v api.Vocab, a api.Ask) ([]int, api.Errno) {
	var g *guide.Guide
	if a.Guide != "" {
		g, _, _ = guide.New(v, a.Guide)
	}
	s, state := slices.Clone(a.Prompt), 0
	for range a.New {
		points, e := xform.Full(m, s)
		if e != api.OK {
			return nil, e
		}
		logits, _ := heads.Logits(m, points[len(s)-1].Hidden)
		var allow []bool
		if g != nil {
			allow, _ = g.Allow(state)
		}
		next, e := pick.Choose(a.Params, logits, s, len(s), allow)
		if e != api.OK {
			return nil, e
		}
		if g != nil {
			state, _ = g.Next(state, next)
		}
		s = append(s, next)
		if next == api.End {
			break
		}
	}
	return s[len(a.Prompt):], api.OK
}

// RingServe: the measures of DOC.md's engine over the ring.
var RingServe = api.Serve{Blocks: 8, Block: 4, Budget: 16, Chunk: 2, Tree: 8}

// RingVocab: the ring's vocabulary.
func RingVocab() api.Vocab { return Vocab("abc") }

// Ring: DOC.md's model, in which 2 comes behind 1, 3 behind 2, 1 behind 3, and 0 behind 0.
func Ring() api.Weights {
	square := func(places ...int) api.Mat {
		m := api.Mat{Rows: 4, Cols: 4, Data: make([]int8, 16)}
		for row, place := range places {
			m.Data[row*4+place] = 100
		}
		return m
	}
	zero := func(rows, cols int) api.Mat { return api.Mat{Rows: rows, Cols: cols, Data: make([]int8, rows*cols)} }
	gains := func() []int8 { return []int8{64, 64, 64, 64} }
	return api.Weights{
		Config: api.Config{Vocab: 4, Width: 4, Heads: 1, KV: 1, Layers: 1, Hidden: 1, Len: 16, Medusa: 1},
		Embed:  square(0, 1, 2, 3),
		Turns:  []api.Turn{{C: api.Unit}, {C: api.Unit}},
		Layers: []api.Layer{{Norm1: gains(), Norm2: gains(), Q: zero(4, 4), K: zero(4, 4), V: zero(4, 4), O: zero(4, 4), G: zero(1, 4), U: zero(1, 4), D: zero(4, 1)}},
		Final:  gains(),
		Head:   square(0, 3, 1, 2),
		Medusa: []api.Mat{square(0, 2, 3, 1)},
	}
}

// TinyServe: the measures of chapter 20's engine over its model.
var TinyServe = api.Serve{Blocks: 8, Block: 2, Budget: 8, Chunk: 3, Tree: 4}

// TinyVocab: the vocabulary of chapter 20's model.
func TinyVocab() api.Vocab { return Vocab("ab") }

// Tiny: chapter 20's model: chapter 8's with Len 12 and the Head rows 0 0, 1 0, 0 1.
func Tiny() api.Weights {
	g := []int8{64, 64}
	d := api.Mat{Rows: 2, Cols: 2, Data: []int8{64, 0, 0, 64}}
	line := api.Mat{Rows: 1, Cols: 2, Data: []int8{0, 0}}
	l := api.Layer{Norm1: g, Norm2: g, Q: d, K: d, V: d, O: d, G: line, U: line, D: api.Mat{Rows: 2, Cols: 1, Data: []int8{0, 0}}, By: api.Shifts{6, 6, 6, 0, 0, 0, 0}}
	e := api.Mat{Rows: 3, Cols: 2, Data: []int8{0, 0, 1, 0, 0, 1}}
	return api.Weights{Config: api.Config{Vocab: 3, Width: 2, Heads: 1, KV: 1, Layers: 1, Hidden: 1, Len: 12}, Embed: e, Turns: []api.Turn{{C: 0, S: 16384}}, Layers: []api.Layer{l}, Final: g, Head: e}
}

// Lively: weights of numbers that tell.
func (s *Source) Lively(c api.Config) api.Weights {
	w := s.Weights(c)
	for i := range w.Layers {
		w.Layers[i].By = api.Shifts{7, 7, 7, 1, 3, 6, 1}
	}
	return w
}

// Tight: lively weights whose logits lie close together, so that many gaps are alike.
func (s *Source) Tight(c api.Config) api.Weights {
	w := s.Lively(c)
	for i := range w.Head.Data {
		w.Head.Data[i] = int8(s.Below(3) - 1)
	}
	for i := range w.Final {
		w.Final[i] = int8(1 + s.Below(2))
	}
	return w
}

// Small: lively weights of drawn measures, with a vocabulary for them.
func (s *Source) Small() (api.Weights, api.Vocab) {
	v := Vocab("ab", [2]int{1, 2}, [2]int{2, 2}, [2]int{3, 1})
	v.Pairs = v.Pairs[:s.Below(4)]
	heads := 1 + s.Below(2)
	c := api.Config{Vocab: Tokens(v), Width: 4 * heads, Heads: heads, KV: 1, Layers: 1 + s.Below(2), Hidden: 1 + s.Below(4), Len: 8 + s.Below(17), Medusa: s.Below(4)}
	return s.Lively(c), v
}

// Serve: drawn measures for texts of so many tokens; a pool that is short as often as not.
func (s *Source) Serve(long int) api.Serve {
	c := api.Serve{Block: 1 + s.Below(5), Chunk: 1 + s.Below(5), Tree: 1 + s.Below(8)}
	least := (long + c.Block - 1) / c.Block
	c.Blocks = least + []int{0, 1, s.Below(least + 1), 3 * least}[s.Below(4)]
	c.Budget = c.Chunk + s.Below(20)
	return c
}

// Asker draws requests that may be, for texts of so many tokens of a vocabulary.
type Asker struct {
	*Source
	Long, Vocab int
	// Prompts: requests begin like these, so that they share.
	Prompts [][]int
	Guides  []string
}

// Asker: one for a model of these measures, whose vocabulary begins with the base bytes a and b.
func (s *Source) Asker(c api.Config) *Asker {
	a := &Asker{Source: s, Long: c.Len, Vocab: c.Vocab, Guides: []string{"(ab)*", "b*", "(a|b)+a?", "ab+"}}
	for range 3 {
		a.Prompts = append(a.Prompts, a.Some(c.Len-1))
	}
	return a
}

// Some: up to so many tokens, one at least, End rarely among them.
func (a *Asker) Some(most int) []int {
	var out []int
	for range 1 + a.Below(most) {
		out = append(out, (a.Below(40)+1)%a.Vocab)
	}
	return out
}

// Params: greedy ones as often as not.
func (s *Source) Params() api.Params {
	if s.Below(2) == 0 {
		return Greedy
	}
	return api.Params{Temp: s.Below(1000), TopK: s.Below(5), TopP: 500 + s.Below(501), Penalty: 128 + s.Below(400), Seed: s.Next()}
}

// Ask: a request that may be.
func (a *Asker) Ask() api.Ask {
	prompt := a.Prompts[a.Below(len(a.Prompts))]
	prompt = slices.Clone(prompt[:1+a.Below(len(prompt))])
	if a.Below(3) == 0 {
		prompt = append(prompt, a.Some(3)...)
	}
	prompt = prompt[:min(len(prompt), a.Long-1)]
	out := api.Ask{Prompt: prompt, New: 1 + a.Below(a.Long-len(prompt)), Params: a.Params(), Proposer: a.Below(5)}
	if len(a.Guides) > 0 && a.Below(3) == 0 {
		out.Guide = a.Guides[a.Below(len(a.Guides))]
	}
	return out
}

// Raw: guesses of which some are these next tokens, and some are ill made.
func (a *Asker) Raw(next []int) []api.RawNode {
	var raw []api.RawNode
	parent := -1
	for _, token := range next {
		for range a.Below(3) {
			raw = append(raw, api.RawNode{Parent: a.Below(len(raw)+3) - 2, Token: a.Below(a.Vocab+2) - 1})
		}
		if a.Below(7) == 0 {
			break
		}
		raw = append(raw, api.RawNode{Parent: parent, Token: token})
		parent = len(raw) - 1
	}
	return raw[:min(len(raw), api.MaxRaw)]
}

// RawOf: a raw tree of parents and tokens, one behind the other.
func RawOf(numbers ...int) []api.RawNode {
	var raw []api.RawNode
	for i := 0; i < len(numbers); i += 2 {
		raw = append(raw, api.RawNode{Parent: numbers[i], Token: numbers[i+1]})
	}
	return raw
}

// SameReport: alike; no list and one without elements are the same.
func SameReport(a, b api.Report) bool {
	return a.Slots == b.Slots && slices.Equal(a.Out, b.Out) && slices.EqualFunc(a.Did, b.Did, func(a, b api.Did) bool {
		return a.Id == b.Id && a.Prefill == b.Prefill && a.Nodes == b.Nodes && a.Accepted == b.Accepted && slices.Equal(a.Tokens, b.Tokens)
	})
}

// SameState: alike, as SameReport.
func SameState(a, b api.State) bool { return a.Status == b.Status && slices.Equal(a.Tokens, b.Tokens) }

// Spoil writes all over an answered list, the room behind it too.
func Spoil[T any](list []T, mark T) {
	_ = append(list, mark)
	Overwrite(list, mark)
}

// SpoilReport: Spoil of all lists of a report.
func SpoilReport(r api.Report) {
	for _, d := range r.Did {
		Spoil(d.Tokens, 99)
	}
	Spoil(r.Out, 99)
	Spoil(r.Did, api.Did{Id: 77, Prefill: 78})
}
