package engine_test

import (
	"slices"
	"testing"

	"augur/api"
	"augur/engine"
	"augur/testaid"
)

// ringOf: an engine of the ring with other measures.
func ringOf(t *testing.T, blocks, block, budget, chunk, tree int) *engine.Engine {
	t.Helper()
	return newEngine(t, newModel(t, testaid.Ring()), ringVocab, api.Serve{Blocks: blocks, Block: block, Budget: budget, Chunk: chunk, Tree: tree})
}

// round: the first n tokens of 1 2 3 1 2 3 ..
func round(n int) []int {
	var out []int
	for i := range n {
		out = append(out, 1+i%3)
	}
	return out
}

// ask: a greedy one.
func ask(kind, fresh int, prompt ...int) api.Ask {
	return api.Ask{Prompt: prompt, New: fresh, Params: greedy, Proposer: kind}
}

// reports: a step that is told so.
func reports(t *testing.T, g *engine.Engine, want api.Report, picks ...int) {
	t.Helper()
	if r := g.Step(picks...); !testaid.SameReport(r, want) {
		t.Fatalf("P20.15: picked %v: %+v, want %+v", picks, r, want)
	}
}

// filledBefore: an engine over which a request with these tokens was filled and cancelled.
func filledBefore(t *testing.T, g *engine.Engine, prompt ...int) {
	t.Helper()
	asks(t, g, 1, ask(api.PNone, 1, prompt...))
	for n := 0; n < len(prompt)-1; n, _ = g.Filled(1) {
		g.Step(1)
	}
	g.Cancel(1)
}

// P20.8: who is picked and has no blocks shares what is kept of its tokens but the last; even if it is not served.
func TestSharing(t *testing.T) {
	g := ringOf(t, 16, 4, 4, 2, 1)
	filledBefore(t, g, round(13)...)
	rooms(t, g, 16, 13, 0, 3)
	for id, n := range []int{8, 9, 13, 5, 4, 3} {
		asks(t, g, id+2, ask(api.PNone, 1, round(n)...))
	}
	// Request 2 knows 8 tokens: a second block would take in its root.
	reports(t, g, api.Report{Did: []api.Did{{Id: 2, Prefill: 2}, {Id: 4, Nodes: 1, Tokens: []int{2}}, {Id: 5, Nodes: 1, Tokens: []int{3}}}, Slots: 4}, 6, 5, 4, 2, 6)
	fills(t, g, 2, 6)
	polls(t, g, 3, api.Waiting)
	rooms(t, g, 16, 12, 2, 2)
	// The budget does not reach to request 8: it has its block all the same.
	asks(t, g, 8, ask(api.PNone, 2, round(5)...))
	reports(t, g, api.Report{Did: []api.Did{{Id: 2, Prefill: 1}, {Id: 3, Nodes: 1, Tokens: []int{1}}, {Id: 6, Prefill: 2}}, Slots: 4}, 2, 3, 6, 8)
	fills(t, g, 8, 4)
	polls(t, g, 8, api.Running)
	reports(t, g, api.Report{Did: []api.Did{{Id: 8, Nodes: 1, Tokens: []int{3}}}, Slots: 1}, 8)
	polls(t, g, 7, api.Waiting)
}

// P20.8: what is not the same from the first token on is not shared.
func TestSharingUnlike(t *testing.T) {
	g := ringOf(t, 16, 4, 8, 8, 8)
	filledBefore(t, g, 1, 2, 3, 1, 2, 3, 1, 2, 3)
	asks(t, g, 2, ask(api.PNone, 1, 1, 2, 3, 1, 2, 3, 1, 1, 3))
	steps(t, g, api.Did{Id: 2, Prefill: 4})
	asks(t, g, 3, ask(api.PNone, 1, 2, 2, 3, 1, 2, 3, 1, 2, 3))
	steps(t, g, api.Did{Id: 3, Prefill: 8})
	// Request 2's second block stands behind the first one that it shares.
	rooms(t, g, 16, 11, 4, 1)
	g.Cancel(2)
	g.Cancel(3)
	rooms(t, g, 16, 11, 0, 5)
}

// P20.9: those that are out have no blocks, no cached tokens and no last vector, but their gauge, offer and tokens stay.
func TestOut(t *testing.T) {
	g := ringOf(t, 4, 4, 16, 4, 8)
	asks(t, g, 1, ask(api.PNone, 4, 1, 1, 1, 1, 1, 1, 1, 1, 1, 1, 1, 1))
	asks(t, g, 2, ask(api.PRaw, 9, round(2)...))
	steps(t, g, api.Did{Id: 2, Prefill: 1})
	offers(t, g, 2, -1, 3, 0, 1)
	steps(t, g, api.Did{Id: 2, Nodes: 3, Accepted: 2, Tokens: []int{3, 1, 2}})
	fills(t, g, 2, 4)
	offers(t, g, 2, -1, 3, 0, 1, 1, 2, 2, 3, 3, 1, 4, 2)
	for _, n := range []int{4, 4, 3} {
		steps(t, g, api.Did{Id: 1, Prefill: n})
	}
	polls(t, g, 2, api.Running, 3, 1, 2)
	steps(t, g, api.Did{Id: 1, Nodes: 1, Tokens: []int{2}})
	reports(t, g, api.Report{Did: []api.Did{{Id: 1, Nodes: 1, Tokens: []int{3}}}, Out: []int{2}, Slots: 1}, 1, 2)
	polls(t, g, 2, api.Waiting, 3, 1, 2)
	fills(t, g, 2, 0)
	if b := filledBlocks(t, g, 2); len(b) != 0 {
		t.Errorf("P20.9: it has the blocks %v", b)
	}
	g.Cancel(1)
	// It knows 5 tokens; what was offered waits while they are filled, and its gauge says 7.
	steps(t, g, api.Did{Id: 2, Prefill: 4})
	steps(t, g, api.Did{Id: 2, Nodes: 6, Accepted: 5, Tokens: []int{3, 1, 2, 3, 1, 2}})
	polls(t, g, 2, api.Done, 3, 1, 2, 3, 1, 2, 3, 1, 2)
}

// filledBlocks: those of a request.
func filledBlocks(t *testing.T, g *engine.Engine, id int) []int {
	t.Helper()
	b, e := g.Blocks(id)
	if e != api.OK {
		t.Fatalf("P20.6: Blocks(%d): %d", id, e)
	}
	return b
}

// P20.10: an offer waits until it is used, is used once, and is forgotten for another one, also for one without nodes.
func TestOffers(t *testing.T) {
	g := ringEngine(t)
	asks(t, g, 1, ask(api.PRaw, 13, 1, 2, 3))
	offers(t, g, 1, -1, 1)
	steps(t, g, api.Did{Id: 1, Prefill: 2})
	steps(t, g, api.Did{Id: 1, Nodes: 2, Accepted: 1, Tokens: []int{1, 2}})
	steps(t, g, api.Did{Id: 1, Nodes: 1, Tokens: []int{3}})
	offers(t, g, 1, -1, 1, 0, 2)
	offers(t, g, 1, -1, 2)
	steps(t, g, api.Did{Id: 1, Nodes: 2, Tokens: []int{1}})
	offers(t, g, 1, -1, 2)
	offers(t, g, 1)
	steps(t, g, api.Did{Id: 1, Nodes: 1, Tokens: []int{2}})
	offers(t, g, 1, -1, 3)
	if e := g.Offer(1, make([]api.RawNode, api.MaxRaw+1)); e != api.ErrTree {
		t.Errorf("P20.3: %d", e)
	}
	steps(t, g, api.Did{Id: 1, Nodes: 2, Accepted: 1, Tokens: []int{3, 1}})
}

// P20.10: the trees of the further heads, and where there is no last vector for them.
func TestFurtherHeads(t *testing.T) {
	g := ringOf(t, 8, 4, 16, 8, 8)
	asks(t, g, 1, ask(api.PMedusa, 6, 1))
	steps(t, g, api.Did{Id: 1, Nodes: 1, Tokens: []int{2}})
	// Of the three best 3, 0, 1 the end is no guess.
	steps(t, g, api.Did{Id: 1, Nodes: 3, Accepted: 1, Tokens: []int{3, 1}})
	steps(t, g, api.Did{Id: 1, Nodes: 3, Accepted: 1, Tokens: []int{2, 3}})
	steps(t, g, api.Did{Id: 1, Nodes: 1, Tokens: []int{1}})
	asks(t, g, 2, ask(api.PMedusa, 6, 1, 2))
	steps(t, g, api.Did{Id: 2, Prefill: 1})
	steps(t, g, api.Did{Id: 2, Nodes: 3, Accepted: 1, Tokens: []int{3, 1}})
	asks(t, g, 3, ask(api.PMedusa, 6, round(5)...))
	steps(t, g, api.Did{Id: 3, Prefill: 4})
	steps(t, g, api.Did{Id: 3, Nodes: 3, Accepted: 1, Tokens: []int{3, 1}})
	// What is shared whole was not passed for this one.
	asks(t, g, 4, ask(api.PMedusa, 6, round(5)...))
	steps(t, g, api.Did{Id: 4, Nodes: 1, Tokens: []int{3}})
	steps(t, g, api.Did{Id: 4, Nodes: 3, Accepted: 1, Tokens: []int{1, 2}})
}

// P20.10: both proposers joined, what followed before first.
func TestBoth(t *testing.T) {
	g := ringOf(t, 8, 4, 16, 8, 8)
	asks(t, g, 1, ask(api.PBoth, 11, round(5)...))
	steps(t, g, api.Did{Id: 1, Prefill: 4})
	// The tree is the root, 3, 1, 1 behind 3, 2 behind that; the gauge says 4.
	steps(t, g, api.Did{Id: 1, Nodes: 4, Accepted: 2, Tokens: []int{3, 1, 2}})
	steps(t, g, api.Did{Id: 1, Nodes: 5, Accepted: 3, Tokens: []int{3, 1, 2, 3}})
	// 4 are left.
	steps(t, g, api.Did{Id: 1, Nodes: 5, Accepted: 3, Tokens: []int{1, 2, 3, 1}})
	polls(t, g, 1, api.Done, 3, 1, 2, 3, 1, 2, 3, 1, 2, 3, 1)
}

// P20.10: no node is as deep as there are tokens left.
func TestDepth(t *testing.T) {
	for left := 1; left <= 5; left++ {
		g := ringOf(t, 8, 4, 16, 8, 5)
		asks(t, g, 1, ask(api.PRaw, left, 1))
		offers(t, g, 1, -1, 2, 0, 3, 1, 1, -1, 3, 3, 1)
		nodes, accepted := []int{1, 3, 4, 4, 4}[left-1], min(left-1, 2)
		steps(t, g, api.Did{Id: 1, Nodes: nodes, Accepted: accepted, Tokens: []int{2, 3, 1}[:accepted+1]})
	}
}

// P20.11: kept blocks give way, the least lately used first, and no more of them than are needed.
func TestKeptGiveWay(t *testing.T) {
	g := ringOf(t, 8, 2, 16, 16, 8)
	for id, first := range []int{1, 2, 3} {
		asks(t, g, id+1, ask(api.PNone, 1, first, 1, 1, 1, 1))
		steps(t, g, api.Did{Id: id + 1, Prefill: 4})
		g.Cancel(id + 1)
	}
	rooms(t, g, 8, 2, 0, 6)
	// The first of them is used again.
	asks(t, g, 4, ask(api.PNone, 1, 1, 1, 1, 1, 2))
	steps(t, g, api.Did{Id: 4, Nodes: 1, Tokens: []int{3}})
	rooms(t, g, 8, 2, 0, 6)
	asks(t, g, 5, ask(api.PNone, 1, 0, 0, 0, 0, 0, 0))
	steps(t, g, api.Did{Id: 5, Prefill: 5})
	rooms(t, g, 8, 0, 3, 5)
	g.Cancel(5)
	rooms(t, g, 8, 1, 0, 7)
	// Of 2 1 1 1 the longer beginning went.
	for id, cached := range []int{4, 2, 4} {
		asks(t, g, id+6, ask(api.PNone, 1, id+1, 1, 1, 1, 2))
		if r := g.Step(id + 6); len(r.Did) != 1 || r.Did[0].Prefill != 4-cached {
			t.Errorf("P20.11: behind %d: %+v, want %d", id+1, r, 4-cached)
		}
		g.Cancel(id + 6)
	}
}

// P20.13: nothing is kept of a prompt that is not filled; of one that is, the whole blocks ahead of its root.
func TestKeeping(t *testing.T) {
	for n := 2; n <= 13; n++ {
		g := ringOf(t, 8, 4, 16, 2, 8)
		asks(t, g, 1, ask(api.PNone, 3, round(n)...))
		for cached := 2; cached < n-1; cached += 2 {
			g.Step(1)
		}
		all, _, owned, kept := g.Room()
		if all != 8 || kept != 0 {
			t.Errorf("P20.7: of %d tokens: %d blocks, %d are kept", n, all, kept)
		}
		asks(t, g, 2, ask(api.PNone, 1, round(n)...))
		if r := g.Step(2); len(r.Did) != 1 || r.Did[0].Prefill != min(2, n-1) {
			t.Errorf("P20.13: of %d tokens, with %d blocks, something is found: %+v", n, owned, r)
		}
		g.Cancel(2)
		g.Step(1)
		fills(t, g, 1, n-1)
		g.Cancel(1)
		rooms(t, g, 8, 8-(n-1)/4, 0, (n-1)/4)
	}
}

// P20.13: of two who fill the same beginning at one time the blocks of one are kept.
func TestKeepingOnce(t *testing.T) {
	g := ringOf(t, 8, 4, 16, 4, 8)
	asks(t, g, 1, ask(api.PNone, 3, round(9)...))
	asks(t, g, 2, ask(api.PNone, 3, round(13)...))
	g.Step(1, 2)
	g.Step(1, 2)
	g.Step(2)
	fills(t, g, 1, 8)
	fills(t, g, 2, 12)
	rooms(t, g, 8, 3, 5, 0)
	g.Cancel(2)
	// Request 1's blocks are known; request 2's third one would stand behind others than its own.
	rooms(t, g, 8, 6, 2, 0)
	g.Cancel(1)
	rooms(t, g, 8, 6, 0, 2)
}

// P20.13: a request that is filled again has more of its prompt kept: no root of the prompt is left out then.
func TestKeepingAgain(t *testing.T) {
	g := ringOf(t, 4, 4, 16, 4, 1)
	asks(t, g, 1, ask(api.PNone, 3, 1, 1, 1, 1, 1, 1, 1, 1, 1, 1, 1, 1))
	asks(t, g, 2, ask(api.PNone, 8, round(4)...))
	g.Step(2)
	g.Step(2)
	polls(t, g, 2, api.Running, 2)
	g.Step(1)
	g.Step(1)
	g.Step(1)
	reports(t, g, api.Report{Did: []api.Did{{Id: 1, Nodes: 1, Tokens: []int{2}}}, Slots: 1}, 1)
	reports(t, g, api.Report{Did: []api.Did{{Id: 1, Nodes: 1, Tokens: []int{3}}}, Out: []int{2}, Slots: 1}, 1)
	g.Cancel(1)
	rooms(t, g, 4, 2, 0, 2)
	steps(t, g, api.Did{Id: 2, Prefill: 4})
	g.Cancel(2)
	rooms(t, g, 4, 1, 0, 3)
}

// P20.14: End is answered, and is the last.
func TestEnd(t *testing.T) {
	g := ringEngine(t)
	asks(t, g, 1, ask(api.PNone, 9, 1, 0))
	steps(t, g, api.Did{Id: 1, Prefill: 1})
	steps(t, g, api.Did{Id: 1, Nodes: 1, Tokens: []int{0}})
	polls(t, g, 1, api.Done, 0)
	// Behind guesses that come true, too: the guide b?c? lets 2 3 come, and then the end.
	a := ask(api.PRaw, 9, 1)
	a.Guide = "b?c?"
	asks(t, g, 2, a)
	offers(t, g, 2, -1, 2, 0, 3, 1, 1)
	steps(t, g, api.Did{Id: 2, Nodes: 4, Accepted: 2, Tokens: []int{2, 3, 0}})
	polls(t, g, 2, api.Done, 2, 3, 0)
	rooms(t, g, 8, 8, 0, 0)
}

// P20.14: the gauge goes on by what came true.
func TestGauge(t *testing.T) {
	star := []int{-1, 1, -1, 2, -1, 3, 0, 1, 0, 2, 0, 3, 1, 1, 1, 2, 1, 3}
	type tree struct {
		raw             []int
		nodes, accepted int
	}
	for i, trees := range [][]tree{
		// Sizes: 4; one of three: 4; none of three: 2; one of one: 4; two of three: 6, as many as there may be.
		{{star, 4, 1}, {[]int{-1, 2, -1, 3, 0, 1}, 4, 0}, {[]int{-1, 2}, 2, 1}, {[]int{-1, 1, 0, 2, 1, 1}, 4, 2}, {star, 6, 2}},
		// Sizes: 4; none: 2; none: 1; nothing four times: 2.
		{{[]int{-1, 3, -1, 1, 0, 2}, 4, 0}, {star, 2, 0}, {star, 1, 0}, {nil, 1, 0}, {star, 1, 0}, {star, 1, 0}, {[]int{-1, 2, 0, 3}, 2, 1}},
	} {
		g := ringOf(t, 16, 4, 64, 2, 6)
		asks(t, g, 1, ask(api.PRaw, 15, 1))
		for j, c := range trees {
			offers(t, g, 1, c.raw...)
			r := g.Step(1)
			if len(r.Did) != 1 || r.Did[0].Nodes != c.nodes || r.Did[0].Accepted != c.accepted || len(r.Did[0].Tokens) != c.accepted+1 {
				t.Fatalf("P20.14: run %d, tree %d: %+v, want %d nodes, %d accepted", i, j, r, c.nodes, c.accepted)
			}
		}
		want := slices.Concat(round(15)[1:], []int{1})
		if s, _ := g.Poll(1); !slices.Equal(s.Tokens, want[:len(s.Tokens)]) {
			t.Errorf("W1: %v", s)
		}
	}
}

// P20.13: what is looked for ahead of keeping is the prompt alone: what others keep behind it, where the answer happens to go on like theirs, is not used by that.
func TestKeepingLooksAtPrompt(t *testing.T) {
	g := ringOf(t, 8, 2, 16, 2, 1)
	asks(t, g, 1, ask(api.PNone, 2, 3, 3, 3, 3, 3, 3, 3, 3, 3, 3, 3, 3, 3, 3))
	asks(t, g, 2, ask(api.PNone, 9, 1, 2, 3))
	steps(t, g, api.Did{Id: 2, Prefill: 2})
	for _, token := range []int{1, 2, 3, 1} {
		steps(t, g, api.Did{Id: 2, Nodes: 1, Tokens: []int{token}})
	}
	for range 5 {
		steps(t, g, api.Did{Id: 1, Prefill: 2})
	}
	reports(t, g, api.Report{Did: []api.Did{{Id: 1, Prefill: 2}}, Out: []int{2}, Slots: 2}, 1)
	g.Cancel(1)
	rooms(t, g, 8, 7, 0, 1)
	// Request 2 comes back to its first block; while it fills, request 3 has what follows kept, and then request 4 something else.
	steps(t, g, api.Did{Id: 2, Prefill: 2})
	asks(t, g, 3, ask(api.PNone, 1, round(7)...))
	steps(t, g, api.Did{Id: 3, Prefill: 2})
	steps(t, g, api.Did{Id: 3, Prefill: 2})
	g.Cancel(3)
	asks(t, g, 4, ask(api.PNone, 1, 2, 2, 2))
	steps(t, g, api.Did{Id: 4, Prefill: 2})
	g.Cancel(4)
	rooms(t, g, 8, 3, 2, 3)
	steps(t, g, api.Did{Id: 2, Prefill: 2})
	rooms(t, g, 8, 2, 3, 3)
	// One kept block must go: request 3's was used longer ago than request 4's.
	asks(t, g, 5, ask(api.PNone, 1, 3, 3, 3, 3, 3, 3, 3, 3, 3))
	for range 3 {
		steps(t, g, api.Did{Id: 5, Prefill: 2})
	}
	rooms(t, g, 8, 0, 6, 2)
	g.Cancel(5)
	asks(t, g, 6, ask(api.PNone, 1, 2, 2, 2))
	steps(t, g, api.Did{Id: 6, Nodes: 1, Tokens: []int{3}})
	asks(t, g, 7, ask(api.PNone, 1, round(7)...))
	steps(t, g, api.Did{Id: 7, Prefill: 2})
}
