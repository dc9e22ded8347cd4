package draft_test

import (
	"math"
	"slices"
	"testing"

	"augur/api"
	"augur/draft"
	"augur/engine"
	"augur/model"
	"augur/testaid"
)

func newEngine(t *testing.T, m *model.Model, v api.Vocab, c api.Serve) *engine.Engine {
	t.Helper()
	g, e := engine.New(m, v, c)
	if e != api.OK {
		t.Fatalf("engine.New answered the error %d", e)
	}
	return g
}

func ringEngine(t *testing.T) *engine.Engine {
	t.Helper()
	return newEngine(t, ring(t), testaid.RingVocab(), testaid.RingServe)
}

func newDrafter(t *testing.T, g *engine.Engine, m *model.Model, widths ...int) *draft.Drafter {
	t.Helper()
	d, e := draft.New(g, m, widths...)
	if d == nil || e != api.OK {
		t.Fatalf("P25.2: New with the widths %v answered %v, %d", widths, d, e)
	}
	return d
}

// greedily: a request for so many tokens behind a prompt.
func greedily(n int, prompt ...int) api.Ask {
	return api.Ask{Prompt: prompt, New: n, Params: testaid.Greedy}
}

func submits(t *testing.T, d *draft.Drafter, want int, a api.Ask) {
	t.Helper()
	if id, e := d.Submit(a); id != want || e != api.OK {
		t.Fatalf("P25.3: Submit(%+v) = %d, %d, want %d", a, id, e, want)
	}
}

// steps: the drafter's Step does just this for one picked request.
func steps(t *testing.T, d *draft.Drafter, want api.Did) {
	t.Helper()
	if r := d.Step(want.Id); !testaid.SameReport(r, api.Report{Did: []api.Did{want}, Slots: want.Prefill + want.Nodes}) {
		t.Fatalf("P25.4: Step(%d) = %+v, want %+v", want.Id, r, want)
	}
}

func polls(t *testing.T, d *draft.Drafter, id, status int, tokens ...int) {
	t.Helper()
	if s, e := d.Poll(id); e != api.OK || !testaid.SameState(s, api.State{Status: status, Tokens: tokens}) {
		t.Fatalf("P25.5: Poll(%d) = %v, %d, want %d, %v", id, s, e, status, tokens)
	}
}

func TestDrafterExample(t *testing.T) {
	d := newDrafter(t, ringEngine(t), ring(t), 1, 1, 1, 1)
	submits(t, d, 1, greedily(6, 1))
	polls(t, d, 1, api.Waiting)
	steps(t, d, api.Did{Id: 1, Nodes: 4, Accepted: 3, Tokens: []int{2, 3, 1, 2}})
	polls(t, d, 1, api.Running, 2, 3, 1, 2)
	steps(t, d, api.Did{Id: 1, Nodes: 2, Accepted: 1, Tokens: []int{3, 1}})
	polls(t, d, 1, api.Done, 2, 3, 1, 2, 3, 1)
}

// P25.2: a drafter without requests over an engine, with any number of widths; any of the errors.
func TestNew(t *testing.T) {
	g, m := ringEngine(t), ring(t)
	refusedNew := func(g *engine.Engine, m *model.Model, widths ...int) {
		t.Helper()
		if d, e := draft.New(g, m, widths...); d != nil || e != api.ErrArg {
			t.Errorf("P25.2: New with %d widths = %v, %d", len(widths), d, e)
		}
	}
	for _, widths := range [][]int{nil, {}, {0}, {1, 0, 2}, {math.MaxInt}, slices.Repeat([]int{1}, 1<<16)} {
		newDrafter(t, g, m, widths...)
		refusedNew(nil, m, widths...)
		refusedNew(g, nil, widths...)
		refusedNew(nil, nil, widths...)
	}
	for _, widths := range wrongWidths() {
		refusedNew(g, m, widths...)
		refusedNew(nil, m, widths...)
		refusedNew(g, nil, widths...)
	}
	d := newDrafter(t, g, m, 1)
	if s, e := d.Poll(1); e != api.ErrRequest || !testaid.SameState(s, api.State{}) {
		t.Errorf("P25.2: a new drafter's Poll(1) = %v, %d", s, e)
	}
	if r := d.Step(1, 2, 3); !testaid.SameReport(r, api.Report{}) {
		t.Errorf("P25.2: a new drafter's Step = %+v", r)
	}
	submits(t, d, 1, greedily(1, 1))
}

// P25.3: whatever the Proposer is, PRaw stands in its place: it is refused never, and guessed for always.
func TestAnyProposer(t *testing.T) {
	for _, kind := range []int{-1, 0, 1, 2, 3, 4, 5, 99, math.MinInt, math.MaxInt} {
		d := newDrafter(t, ringEngine(t), ring(t), 1, 1)
		a := greedily(4, 1)
		a.Proposer = kind
		submits(t, d, 1, a)
		steps(t, d, api.Did{Id: 1, Nodes: 3, Accepted: 2, Tokens: []int{2, 3, 1}})
	}
}

// faulty: requests that the ring's engine refuses, some with several faults.
func faulty() []api.Ask {
	long := make([]int, 17)
	return []api.Ask{
		{}, {New: 1}, {Prompt: []int{}, New: -1}, greedily(0, 1), greedily(-1, 1), greedily(math.MinInt, 1), greedily(16, 1), greedily(math.MaxInt, 1),
		greedily(1, long...), greedily(1, long[:16]...), greedily(1, 4), greedily(1, 1, -1), greedily(0, 4), greedily(1, append(long, 9)...),
		{Prompt: []int{1}, New: 1}, {Prompt: []int{1}, New: 1, Params: api.Params{TopP: 1001, Penalty: 256}},
		{Prompt: []int{1}, New: 1, Params: testaid.Greedy, Guide: "("}, {Prompt: []int{1}, New: 1, Params: testaid.Greedy, Guide: "x"},
		{Prompt: []int{1}, New: 1, Params: testaid.Greedy, Guide: "a{64}"}, {Prompt: []int{1}, New: 0, Guide: "("},
	}
}

// P25.3: what engine.Submit refuses is refused with its error; it has no number and is not guessed for.
func TestSubmitRefuses(t *testing.T) {
	d, plain := newDrafter(t, ringEngine(t), ring(t), 1, 1), ringEngine(t)
	refuses := func(a api.Ask) {
		t.Helper()
		raw := a
		raw.Proposer = api.PRaw
		_, want := plain.Submit(raw)
		for _, kind := range []int{api.PNone, api.PRaw, 77} {
			a.Proposer = kind
			if id, e := d.Submit(a); id != 0 || e != want || want == api.OK {
				t.Errorf("P25.3: Submit(%+v) = %d, %d, want the error %d", a, id, e, want)
			}
		}
	}
	for id := 1; id <= api.MaxLive; id++ {
		for _, a := range faulty() {
			refuses(a)
		}
		submits(t, d, id, greedily(4, 1+id%3))
		plain.Submit(greedily(4, 1+id%3))
	}
	// Too many comes ahead of every other error.
	for _, a := range append(faulty(), greedily(1, 1)) {
		refuses(a)
	}
	steps(t, d, api.Did{Id: 3, Nodes: 3, Accepted: 2, Tokens: []int{2, 3, 1}})
	steps(t, d, api.Did{Id: 3, Nodes: 1, Tokens: []int{2}})
	polls(t, d, 3, api.Done, 2, 3, 1, 2)
	submits(t, d, 17, greedily(1, 1))
}

// P25.4: guessed for just who is picked, live and the drafter's own.
func TestWhoIsGuessedFor(t *testing.T) {
	g := ringEngine(t)
	before := greedily(9, 1)
	before.Proposer = api.PRaw
	for range 2 {
		if _, e := g.Submit(before); e != api.OK {
			t.Fatalf("engine.Submit answered the error %d", e)
		}
	}
	if e := g.Offer(2, testaid.RawOf(-1, 2)); e != api.OK {
		t.Fatalf("Offer answered the error %d", e)
	}
	d := newDrafter(t, g, ring(t), 1, 1)
	submits(t, d, 3, greedily(4, 1))
	// Not the drafter's: no tree but what was offered to it before.
	steps(t, d, api.Did{Id: 1, Nodes: 1, Tokens: []int{2}})
	steps(t, d, api.Did{Id: 2, Nodes: 2, Accepted: 1, Tokens: []int{2, 3}})
	steps(t, d, api.Did{Id: 2, Nodes: 1, Tokens: []int{1}})
	steps(t, d, api.Did{Id: 3, Nodes: 3, Accepted: 2, Tokens: []int{2, 3, 1}})
	polls(t, d, 2, api.Running, 2, 3, 1)
	steps(t, d, api.Did{Id: 3, Nodes: 1, Tokens: []int{2}})
	// It is over: nothing is done for it any more.
	for _, picks := range [][]int{nil, {3}, {3, 3, 0, -1, 99, math.MinInt, math.MaxInt}} {
		if r := d.Step(picks...); !testaid.SameReport(r, api.Report{}) {
			t.Errorf("P25.4: Step(%v) = %+v", picks, r)
		}
	}
	polls(t, d, 3, api.Done, 2, 3, 1, 2)
}

// P25.4: who is picked twice is guessed for as if once; who is not picked stays as it is; the order of the picks tells nothing.
func TestPicks(t *testing.T) {
	for _, picks := range [][]int{{1, 2}, {2, 1}, {2, 2, 1, 1, 2}, {0, 2, -1, 1, 7}} {
		d := newDrafter(t, ringEngine(t), ring(t), 1, 1)
		for id := range 3 {
			submits(t, d, id+1, greedily(5, 1+id))
		}
		want := api.Report{Did: []api.Did{{Id: 1, Nodes: 3, Accepted: 2, Tokens: []int{2, 3, 1}}, {Id: 2, Nodes: 3, Accepted: 2, Tokens: []int{3, 1, 2}}}, Slots: 6}
		if r := d.Step(picks...); !testaid.SameReport(r, want) {
			t.Errorf("P25.4: Step(%v) = %+v, want %+v", picks, r, want)
		}
		polls(t, d, 3, api.Waiting)
	}
}

// P25.4: one that fills is guessed for too: in the step in which it decodes at last its tree is there.
func TestFilling(t *testing.T) {
	d := newDrafter(t, ringEngine(t), ring(t), 1, 1)
	submits(t, d, 1, greedily(5, 1, 2, 3, 1, 2))
	steps(t, d, api.Did{Id: 1, Prefill: 2})
	steps(t, d, api.Did{Id: 1, Prefill: 2})
	steps(t, d, api.Did{Id: 1, Nodes: 3, Accepted: 2, Tokens: []int{3, 1, 2}})
	steps(t, d, api.Did{Id: 1, Nodes: 2, Accepted: 1, Tokens: []int{3, 1}})
}

// P25.4: the prompt is among the known tokens, and so is what was answered.
func TestKnownTokens(t *testing.T) {
	s := testaid.Source(2520)
	told := 0
	for range 20 {
		w, v := s.Small()
		m, c := made(t, w), s.Serve(w.Config.Len)
		c.Tree, c.Budget = 8, 64
		ask := s.Asker(w.Config).Ask()
		ask.Params, ask.Guide = testaid.Greedy, ""
		d := newDrafter(t, newEngine(t, m, v, c), m, 1)
		submits(t, d, 1, ask)
		for range 100 {
			for _, did := range d.Step(1).Did {
				// Its own model, so each guess comes true, unless End comes.
				if did.Nodes > did.Accepted+1 && did.Tokens[len(did.Tokens)-1] != api.End {
					t.Fatalf("P25.4: %+v: %+v", ask, did)
				}
				told += did.Accepted
			}
		}
	}
	if told < 40 {
		t.Errorf("only %d guesses came true", told)
	}
}

// P25.4: nothing is worked out for who is not picked, or is over.
func TestNotGuessedFor(t *testing.T) {
	s := testaid.Source(2521)
	c := measures()[6]
	m := made(t, s.Lively(c))
	v := testaid.Vocab(testaid.Letters(48))
	for i := range 15 {
		v.Pairs = append(v.Pairs, [2]int{1, 1 + i})
	}
	d := newDrafter(t, newEngine(t, m, v, api.Serve{Blocks: 256, Block: 4, Budget: 64, Chunk: 64, Tree: 1}), m, 1)
	for id := range 4 {
		submits(t, d, id+1, greedily(1, drawnText(&s, c, 60)...))
	}
	one := taken(func() { proposed(t, m, make([]int, 60), 1) })
	for range 2 {
		d.Step(1)
	}
	if state, _ := d.Poll(1); state.Status != api.Done {
		t.Fatalf("P25.4: behind two steps %v", state)
	}
	for _, picks := range [][]int{nil, {1}, {0, 5, -1, 1}} {
		if is := taken(func() { d.Step(picks...) }); is > one/4 {
			t.Errorf("P25.4: Step(%v) took %d bytes, one token's logits %d", picks, is, one)
		}
	}
}

// P25.5: of numbers that are nobody's; of requests that the engine had before.
func TestPoll(t *testing.T) {
	g := ringEngine(t)
	g.Submit(greedily(2, 1))
	g.Submit(greedily(2, 1))
	g.Step(1)
	g.Cancel(2)
	d := newDrafter(t, g, ring(t), 1)
	submits(t, d, 3, greedily(2, 2))
	polls(t, d, 1, api.Running, 2)
	polls(t, d, 2, api.Cancelled)
	polls(t, d, 3, api.Waiting)
	for _, id := range []int{0, -1, 4, math.MinInt, math.MaxInt} {
		if s, e := d.Poll(id); e != api.ErrRequest || !testaid.SameState(s, api.State{}) {
			t.Errorf("P25.5: Poll(%d) = %v, %d", id, s, e)
		}
	}
}

// R3: of a nil drafter.
func TestNil(t *testing.T) {
	var d *draft.Drafter
	for _, a := range append(faulty(), greedily(1, 1)) {
		if id, e := d.Submit(a); id != 0 || e != api.ErrArg {
			t.Errorf("R3: Submit = %d, %d", id, e)
		}
	}
	for _, id := range []int{0, 1, -1, math.MaxInt} {
		if s, e := d.Poll(id); e != api.ErrArg || !testaid.SameState(s, api.State{}) {
			t.Errorf("R3: Poll(%d) = %v, %d", id, s, e)
		}
		if r := d.Step(id, 1); !testaid.SameReport(r, api.Report{}) {
			t.Errorf("R3: Step = %+v", r)
		}
	}
	if r := d.Step(); !testaid.SameReport(r, api.Report{}) {
		t.Errorf("R3: Step = %+v", r)
	}
}
