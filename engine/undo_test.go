package engine

import (
	"slices"
	"testing"

	"augur/api"
	"augur/model"
	"augur/pool"
)

// None of a step's calls can fail: so these tests reach inside and spoil something ahead of a step.

// whole: a model in which the next token is always the one that came (a layer that adds nothing, an eye for all that speaks).
func whole(t *testing.T) *Engine {
	t.Helper()
	eye := func() api.Mat { return api.Mat{Rows: 2, Cols: 2, Data: []int8{100, 0, 0, 100}} }
	none := func(rows, cols int) api.Mat { return api.Mat{Rows: rows, Cols: cols, Data: make([]int8, rows*cols)} }
	gains := []int8{64, 64}
	m, e := model.New(api.Weights{
		Config: api.Config{Vocab: 2, Width: 2, Heads: 1, KV: 1, Layers: 1, Hidden: 1, Len: 16, Medusa: 1},
		Embed:  eye(), Head: eye(), Final: gains, Medusa: []api.Mat{eye()}, Turns: []api.Turn{{C: api.Unit}},
		Layers: []api.Layer{{Norm1: gains, Norm2: gains, Q: eye(), K: eye(), V: eye(), O: none(2, 2), G: none(1, 2), U: none(1, 2), D: none(2, 1)}},
	})
	if e != api.OK {
		t.Fatalf("no model: %d", e)
	}
	g, e := New(m, api.Vocab{Base: []byte("a")}, api.Serve{Blocks: 16, Block: 2, Budget: 16, Chunk: 3, Tree: 4})
	if e != api.OK {
		t.Fatalf("no engine: %d", e)
	}
	return g
}

// busy: requests 1 to 3 decode in the next step, 4 and 5 fill; 6 has blocks and is not picked.
func busy(t *testing.T) *Engine {
	t.Helper()
	g := whole(t)
	for id, n := range []int{2, 2, 2, 8, 8, 2} {
		a := api.Ask{New: 5, Params: api.Params{TopP: 1000, Penalty: 256}, Proposer: api.PMedusa, Guide: "a*"}
		for range n {
			a.Prompt = append(a.Prompt, 1)
		}
		// Unlike beginnings: nobody shares.
		a.Prompt[0] = id % 2
		if got, e := g.Submit(a); got != id+1 || e != api.OK {
			t.Fatalf("Submit: %d, %d", got, e)
		}
		g.Step(id + 1)
	}
	return g
}

// spoilt: something is wrong with request 2 or 5; what is answered mends it.
func spoilt() []func(g *Engine) (mend func()) {
	return []func(g *Engine) func(){
		func(g *Engine) func() {
			r := g.live[1]
			was := r.params
			r.params.TopP = 0
			return func() { r.params = was }
		},
		func(g *Engine) func() {
			r := g.live[1]
			was := r.gauge
			r.gauge = api.Gauge{}
			return func() { r.gauge = was }
		},
		func(g *Engine) func() {
			r := g.live[1]
			r.last = make([]int8, 9)
			return func() {}
		},
		func(g *Engine) func() {
			r := g.live[1]
			was := r.proposer
			r.proposer = 9
			return func() { r.proposer = was }
		},
		func(g *Engine) func() {
			r := g.live[1]
			r.known[1] = 5
			return func() { r.known[1] = 1 }
		},
		func(g *Engine) func() {
			r := g.live[1]
			r.state = 99
			return func() { r.state = 0 }
		},
		func(g *Engine) func() {
			r := g.live[4]
			was := r.known
			r.known = slices.Concat(was[:3], []int{-1}, was[4:])
			return func() { r.known = was }
		},
		func(g *Engine) func() {
			// The plan itself is refused.
			g.live[1].cached = 99
			return func() {}
		},
		func(g *Engine) func() {
			// No slot of the tables is one of the pool's that the pass is handed.
			was := g.pool
			g.pool, _ = pool.New(1, 2, 1, 1)
			return func() { g.pool = was }
		},
	}
}

// A step that fails inside does not panic: those who were at it have let go their tables, others have not; nothing leaks, and once what was wrong is mended all come to the same end.
func TestFailedStep(t *testing.T) {
	for i, spoil := range spoilt() {
		g := busy(t)
		want := make([][]int, 6)
		for id := range want {
			s, _ := g.Poll(id + 1)
			want[id] = append(s.Tokens, 1, 1, 1, 1, 1)[:5]
		}
		mend := spoil(g)
		g.Step(1, 2, 3, 4, 5)
		for _, r := range g.live {
			at := r.id <= 5
			if r.isWaiting() != at || (r.cached == 0) != at || at && r.last != nil {
				t.Errorf("case %d: request %d has the blocks %v, %d cached, the last vector %v", i, r.id, r.table.Blocks(), r.cached, r.last)
			}
		}
		mend()
		for range 40 {
			g.Step(1, 2, 3, 4, 5, 6)
		}
		for id := range want {
			if s, _ := g.Poll(id + 1); s.Status != api.Done || !slices.Equal(s.Tokens, want[id]) {
				t.Errorf("case %d: request %d: %v, want %v", i, id+1, s, want[id])
			}
		}
		g.prompts.Shrink(99)
		if all, free, owned, kept := g.Room(); free != all {
			t.Errorf("case %d: of %d blocks %d are free, %d owned, %d kept", i, all, free, owned, kept)
		}
	}
}

// What was answered ahead of the failure stays, and is told.
func TestFailedStepTells(t *testing.T) {
	g := busy(t)
	g.live[2].params.TopP = 0
	r := g.Step(1, 2, 3)
	for _, d := range r.Did {
		if s, _ := g.Poll(d.Id); len(d.Tokens) == 0 || !slices.Equal(s.Tokens, d.Tokens) {
			t.Errorf("request %d: %v, told %v", d.Id, s, d.Tokens)
		}
	}
	if len(r.Did) != 2 {
		t.Errorf("told of %d", len(r.Did))
	}
}

// What is over is not kept, but for its status and tokens.
func TestOverNotKept(t *testing.T) {
	g := whole(t)
	for id := 1; id <= 40; id++ {
		a := api.Ask{Prompt: []int{1}, New: 1, Params: api.Params{TopP: 1000, Penalty: 256}}
		if got, e := g.Submit(a); got != id || e != api.OK {
			t.Fatalf("Submit: %d, %d", got, e)
		}
		if id%2 == 0 {
			g.Step(id)
		} else {
			g.Cancel(id)
		}
		if len(g.live) != 0 || len(g.over) != id || g.live[:1][0] != nil {
			t.Fatalf("behind %d: %d live, %d over", id, len(g.live), len(g.over))
		}
	}
}
