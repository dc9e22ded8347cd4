package draft_test

import (
	"slices"
	"testing"

	"augur/api"
	"augur/engine"
	"augur/gauge"
	"augur/model"
	"augur/testaid"
	"augur/tree"
)

// stepsTaken: in how many decoding steps a request alone is Done; it must be told Ref (W1).
func stepsTaken(t *testing.T, g *engine.Engine, guesser *model.Model, a api.Ask, ref []int, widths ...int) int {
	t.Helper()
	d := newDrafter(t, g, guesser, widths...)
	submits(t, d, 1, a)
	n := 0
	for range 100 {
		for _, did := range d.Step(1).Did {
			n += min(did.Nodes, 1)
		}
	}
	polls(t, d, 1, api.Done, ref...)
	return n
}

// What follows: with the guessing model, and the widths, just the number of steps changes: right guesses make it less, wrong ones are as good as none.
func TestJustTheStepsChange(t *testing.T) {
	wrong := testaid.Ring()
	wrong.Head = wrong.Medusa[0]
	short := testaid.Ring()
	short.Config.Len = 1
	ref := []int{2, 3, 1, 2, 3, 1, 2, 3, 1, 2, 3, 1}
	for i, c := range []struct {
		guesser *model.Model
		widths  []int
		want    int
	}{
		{ring(t), nil, 12}, {ring(t), []int{0, 9}, 12}, {ring(t), []int{1}, 6}, {ring(t), []int{1, 1}, 4}, {ring(t), []int{1, 1, 1}, 3},
		{ring(t), slices.Repeat([]int{1}, 9), 2}, {ring(t), []int{2, 1}, 4}, {ring(t), []int{9}, 6},
		{made(t, wrong), []int{1, 1, 1}, 12}, {made(t, wrong), []int{9}, 6}, {made(t, short), []int{1, 1}, 4},
	} {
		if is := stepsTaken(t, ringEngine(t), c.guesser, greedily(12, 1), ref, c.widths...); is != c.want {
			t.Errorf("what follows: row %d: %d steps, want %d", i, is, c.want)
		}
	}
}

// ownSteps: with its own model guessing, all widths 1: each step that decodes answers as many tokens as the tree has nodes, which are as many as may be, or ends with End.
func ownSteps(t *testing.T, m *model.Model, v api.Vocab, c api.Serve, a api.Ask, deep int) (guesses int) {
	t.Helper()
	d := newDrafter(t, newEngine(t, m, v, c), m, slices.Repeat([]int{1}, deep)...)
	submits(t, d, 1, a)
	size, _ := gauge.New(c.Tree)
	told := 0
	for range 100 {
		for _, did := range d.Step(1).Did {
			if did.Nodes == 0 {
				continue
			}
			n := len(did.Tokens)
			if ends := n > 0 && did.Tokens[n-1] == api.End; n != did.Nodes && !ends {
				t.Fatalf("what follows: %+v", did)
			}
			if want := min(size.Size, c.Budget, deep+1, a.New-told); did.Nodes != want {
				t.Fatalf("P25.4: %d nodes, want %d", did.Nodes, want)
			}
			size, _ = gauge.Next(size, did.Nodes, did.Accepted)
			told += n
			guesses += did.Accepted
		}
	}
	if state, _ := d.Poll(1); state.Status != api.Done {
		t.Fatalf("W5: behind 100 steps %v", state)
	}
	return guesses
}

func TestOwnModelGuesses(t *testing.T) {
	s := testaid.Source(2540)
	right := 0
	for range 120 {
		w, v := s.Small()
		a := s.Asker(w.Config).Ask()
		a.Params, a.Guide = testaid.Greedy, ""
		right += ownSteps(t, made(t, w), v, s.Serve(w.Config.Len), a, s.Below(9))
	}
	if right < 100 {
		t.Errorf("only %d guesses came true", right)
	}
	for deep := range 34 {
		c := api.Serve{Blocks: 16, Block: 4, Budget: 40, Chunk: 4, Tree: 32}
		ownSteps(t, ring(t), testaid.RingVocab(), c, greedily(13, 1, 2, 3), deep)
	}
}

// What follows: a guessing model of fewer tokens guesses as long as all known ones are below its Vocab.
func TestFewerTokens(t *testing.T) {
	s := testaid.Source(2541)
	w := s.Lively(api.Config{Vocab: 3, Width: 2, Heads: 1, KV: 1, Layers: 1, Hidden: 1, Len: 16})
	clear(w.Head.Data)
	d := newDrafter(t, ringEngine(t), made(t, w), 2)
	submits(t, d, 1, greedily(3, 1))
	// 1 and 2 are guessed behind 1, then behind 2; then 3 is known, of which this model knows nothing.
	steps(t, d, api.Did{Id: 1, Nodes: 3, Accepted: 1, Tokens: []int{2, 3}})
	steps(t, d, api.Did{Id: 1, Nodes: 1, Tokens: []int{1}})
	polls(t, d, 1, api.Done, 2, 3, 1)
	submits(t, d, 2, greedily(2, 3, 1))
	steps(t, d, api.Did{Id: 2, Prefill: 1})
	steps(t, d, api.Did{Id: 2, Nodes: 1, Tokens: []int{2}})
	steps(t, d, api.Did{Id: 2, Nodes: 1, Tokens: []int{3}})
	submits(t, d, 3, greedily(2, 2, 1))
	steps(t, d, api.Did{Id: 3, Prefill: 1})
	steps(t, d, api.Did{Id: 3, Nodes: 3, Accepted: 1, Tokens: []int{2, 3}})
}

// What follows: one of more tokens may guess some that the engine's has not: they are cleaned away, with all that stands behind them.
func TestMoreTokens(t *testing.T) {
	w := testaid.Ring()
	w.Config.Vocab = 6
	w.Embed.Rows, w.Head.Rows, w.Medusa[0].Rows = 6, 6, 6
	w.Embed.Data = append(w.Embed.Data, 0, 0, 100, 0, 0, 0, 0, 100)
	w.Medusa[0].Data = append(w.Medusa[0].Data, make([]int8, 8)...)
	// Behind 1 comes 4 ahead of 2, and behind 4 what comes behind 2.
	w.Head.Data = append(w.Head.Data, 0, 127, 0, 0, 0, 0, 0, 0)
	m := made(t, w)
	proposes(t, m, []int{1}, []int{2, 1}, -1, 4, -1, 2, 0, 3, 1, 3)
	d := newDrafter(t, ringEngine(t), m, 2, 1)
	submits(t, d, 1, greedily(4, 1))
	steps(t, d, api.Did{Id: 1, Nodes: 3, Accepted: 2, Tokens: []int{2, 3, 1}})
	d = newDrafter(t, ringEngine(t), m, 1, 1, 1)
	submits(t, d, 1, greedily(6, 1))
	steps(t, d, api.Did{Id: 1, Nodes: 1, Tokens: []int{2}})
	// Behind 2 comes 3, behind that 1, and behind that 4, which the engine's has not.
	proposes(t, m, []int{1, 2}, []int{1, 1, 1}, -1, 3, 0, 1, 1, 4)
	steps(t, d, api.Did{Id: 1, Nodes: 3, Accepted: 2, Tokens: []int{3, 1, 2}})
}

// What is proposed is a tree: as it stands it is clean, and nothing is left out.
func TestTreesAreClean(t *testing.T) {
	s := testaid.Source(2542)
	for _, c := range small() {
		m := made(t, s.Lively(c))
		for range 15 {
			raw := proposed(t, m, drawnText(&s, c, 1+s.Below(c.Len)), drawnWidths(&s, c, s.Below(6))...)
			if len(raw) > api.MaxRaw {
				t.Fatalf("P25.1: %d nodes", len(raw))
			}
			raw = raw[:min(len(raw), api.MaxNodes-1)]
			nodes, e := tree.Clean(7, raw, c.Vocab)
			if e != api.OK || len(nodes) != len(raw)+1 {
				t.Fatalf("P25.1: Clean(%v) = %v, %d", raw, nodes, e)
			}
			for i, node := range nodes[1:] {
				if node.Parent != raw[i].Parent+1 || node.Token != raw[i].Token {
					t.Fatalf("P25.1: Clean(%v) = %v", raw, nodes)
				}
			}
		}
	}
}

// The first widths give the beginning of the tree, and a text's tree behind its first guess is the tree of the longer text.
func TestFewerWidths(t *testing.T) {
	s := testaid.Source(2543)
	for _, c := range small() {
		m := made(t, s.Lively(c))
		for range 5 {
			text, widths := drawnText(&s, c, 1+s.Below(c.Len+2)), drawnWidths(&s, c, 5)
			var less []api.RawNode
			for n := range len(widths) + 1 {
				more := proposed(t, m, text, widths[:n]...)
				if len(more) < len(less) || !slices.Equal(more[:len(less)], less) {
					t.Fatalf("P25.1: of %v: %v, and of one width more %v", widths[:n], less, more)
				}
				less = more
			}
			chain := proposed(t, m, text, 1, 1, 1, 1)
			for i, node := range chain {
				if one := proposed(t, m, text, 1); node.Parent != i-1 || node.Token != one[0].Token {
					t.Fatalf("P25.1: the chain %v behind %v, whose place %d is %v", chain, text, i, one)
				}
				text = append(text, node.Token)
			}
		}
	}
}
