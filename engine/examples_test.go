package engine_test

import (
	"slices"
	"testing"

	"augur/api"
	"augur/engine"
	"augur/model"
	"augur/testaid"
)

var (
	ringVocab = testaid.RingVocab()
	ringServe = testaid.RingServe
)

func ringEngine(t *testing.T) *engine.Engine {
	t.Helper()
	return newEngine(t, newModel(t, testaid.Ring()), ringVocab, ringServe)
}

var (
	tinyVocab = testaid.TinyVocab()
	tinyServe = testaid.TinyServe
)

func tinyEngine(t *testing.T) *engine.Engine {
	t.Helper()
	return newEngine(t, newModel(t, testaid.Tiny()), tinyVocab, tinyServe)
}

// asks: an ask that is accepted with this number.
func asks(t *testing.T, g *engine.Engine, want int, a api.Ask) {
	t.Helper()
	if id, e := g.Submit(a); id != want || e != api.OK {
		t.Fatalf("P20.2: Submit(%+v): %d, %d, want %d", a, id, e, want)
	}
}

// steps: a step of one request that does just this.
func steps(t *testing.T, g *engine.Engine, want api.Did) {
	t.Helper()
	r := g.Step(want.Id)
	if !testaid.SameReport(r, api.Report{Did: []api.Did{want}, Slots: want.Prefill + want.Nodes}) {
		t.Fatalf("P20.15: %+v, want %+v", r, want)
	}
}

func polls(t *testing.T, g *engine.Engine, id, status int, tokens ...int) {
	t.Helper()
	if s, e := g.Poll(id); e != api.OK || !testaid.SameState(s, api.State{Status: status, Tokens: tokens}) {
		t.Fatalf("P20.5: Poll(%d): %v, %d, want %d, %v", id, s, e, status, tokens)
	}
}

func fills(t *testing.T, g *engine.Engine, id, want int) {
	t.Helper()
	if n, e := g.Filled(id); n != want || e != api.OK {
		t.Fatalf("P20.6: Filled(%d): %d, %d, want %d", id, n, e, want)
	}
}

func rooms(t *testing.T, g *engine.Engine, want ...int) {
	t.Helper()
	all, free, owned, kept := g.Room()
	if is := []int{all, free, owned, kept}; !slices.Equal(is, want) {
		t.Fatalf("P20.7: Room: %v, want %v", is, want)
	}
}

func offers(t *testing.T, g *engine.Engine, id int, numbers ...int) {
	t.Helper()
	if e := g.Offer(id, testaid.RawOf(numbers...)); e != api.OK {
		t.Fatalf("P20.3: Offer(%d, %v): %d", id, numbers, e)
	}
}

// DOC.md's examples 1 and 8.
func TestExampleRef(t *testing.T) {
	m := newModel(t, testaid.Ring())
	drawn := api.Params{Temp: 256, TopP: 1000, Penalty: 256, Seed: 5}
	if is := reference(t, m, ringVocab, api.Ask{Prompt: []int{1}, New: 5, Params: greedy}); !slices.Equal(is, []int{2, 3, 1, 2, 3}) {
		t.Errorf("example 1: %v", is)
	}
	if is := reference(t, m, ringVocab, api.Ask{Prompt: []int{3, 3}, New: 1, Params: greedy}); !slices.Equal(is, []int{1}) {
		t.Errorf("example 1: %v", is)
	}
	ask := api.Ask{Prompt: []int{1}, New: 4, Params: drawn}
	want := reference(t, m, ringVocab, ask)
	for kind := range 5 {
		g := ringEngine(t)
		asks(t, g, 1, api.Ask{Prompt: []int{2, 1}, New: 9, Params: greedy, Proposer: kind})
		ask.Proposer = kind
		asks(t, g, 2, ask)
		for range 9 {
			g.Step(1, 2)
		}
		polls(t, g, 2, api.Done, want...)
	}
}

// DOC.md's example 2.
func TestExampleAlone(t *testing.T) {
	g := ringEngine(t)
	asks(t, g, 1, api.Ask{Prompt: []int{1, 2, 3}, New: 4, Params: greedy, Proposer: api.PNone})
	polls(t, g, 1, api.Waiting)
	steps(t, g, api.Did{Id: 1, Prefill: 2})
	fills(t, g, 1, 2)
	polls(t, g, 1, api.Running)
	steps(t, g, api.Did{Id: 1, Nodes: 1, Tokens: []int{1}})
	polls(t, g, 1, api.Running, 1)
	for _, token := range []int{2, 3, 1} {
		steps(t, g, api.Did{Id: 1, Nodes: 1, Tokens: []int{token}})
	}
	polls(t, g, 1, api.Done, 1, 2, 3, 1)
	rooms(t, g, 8, 8, 0, 0)
	if len(g.Live()) != 0 {
		t.Errorf("P20.5: live: %v", g.Live())
	}
}

// DOC.md's examples 3 and 4.
func TestExampleOffers(t *testing.T) {
	g := ringEngine(t)
	ask := api.Ask{Prompt: []int{1}, New: 6, Params: greedy, Proposer: api.PRaw}
	asks(t, g, 1, ask)
	offers(t, g, 1, -1, 2, 0, 3, 1, 1, -1, 3)
	steps(t, g, api.Did{Id: 1, Nodes: 4, Accepted: 2, Tokens: []int{2, 3, 1}})
	offers(t, g, 1, -1, 2, 0, 3, 1, 1, 2, 2)
	steps(t, g, api.Did{Id: 1, Nodes: 3, Accepted: 2, Tokens: []int{2, 3, 1}})
	polls(t, g, 1, api.Done, 2, 3, 1, 2, 3, 1)
	asks(t, g, 2, ask)
	offers(t, g, 2, -1, 1, -1, 9, 5, 2)
	steps(t, g, api.Did{Id: 2, Nodes: 2, Tokens: []int{2}})
	for _, token := range []int{3, 1, 2, 3, 1} {
		steps(t, g, api.Did{Id: 2, Nodes: 1, Tokens: []int{token}})
	}
	polls(t, g, 2, api.Done, 2, 3, 1, 2, 3, 1)
}

// DOC.md's examples 5 to 7.
func TestExampleGuesses(t *testing.T) {
	g := ringEngine(t)
	asks(t, g, 1, api.Ask{Prompt: []int{1, 2, 3, 1, 2}, New: 6, Params: greedy, Proposer: api.PGram})
	steps(t, g, api.Did{Id: 1, Prefill: 2})
	steps(t, g, api.Did{Id: 1, Prefill: 2})
	steps(t, g, api.Did{Id: 1, Nodes: 4, Accepted: 3, Tokens: []int{3, 1, 2, 3}})
	six := api.Ask{Prompt: []int{1, 2, 3, 1, 2, 3}, New: 2, Params: greedy}
	g = ringEngine(t)
	asks(t, g, 1, six)
	steps(t, g, api.Did{Id: 1, Prefill: 2})
	steps(t, g, api.Did{Id: 1, Prefill: 2})
	rooms(t, g, 8, 7, 1, 0)
	steps(t, g, api.Did{Id: 1, Prefill: 1})
	asks(t, g, 2, six)
	steps(t, g, api.Did{Id: 2, Prefill: 1})
	fills(t, g, 2, 5)
	asks(t, g, 3, api.Ask{Prompt: []int{1}, New: 9, Params: greedy, Guide: "b*"})
	steps(t, g, api.Did{Id: 3, Nodes: 1, Tokens: []int{2}})
	steps(t, g, api.Did{Id: 3, Nodes: 1, Tokens: []int{0}})
	polls(t, g, 3, api.Done, 2, 0)
}

// DOC.md's example 9.
func TestExampleRefused(t *testing.T) {
	g := ringEngine(t)
	if e := g.Cancel(2); e != api.ErrRequest {
		t.Errorf("P20.4: %d", e)
	}
	for _, c := range []struct {
		ask  api.Ask
		want api.Errno
	}{
		{api.Ask{New: 1, Params: greedy}, api.ErrEmpty},
		{api.Ask{Prompt: make([]int, 17), New: 1, Params: greedy}, api.ErrLong},
		{api.Ask{Prompt: []int{1}, New: 16, Params: greedy}, api.ErrLong},
		{api.Ask{Prompt: []int{4}, New: 1, Params: greedy}, api.ErrToken},
	} {
		if id, e := g.Submit(c.ask); id != 0 || e != c.want {
			t.Errorf("P20.2: %+v: %d, %d, want %d", c.ask, id, e, c.want)
		}
	}
}

// The chapter's examples 3 to 6.
func TestExampleChapter(t *testing.T) {
	g := tinyEngine(t)
	asks(t, g, 1, api.Ask{Prompt: []int{1}, New: 1, Params: greedy})
	polls(t, g, 1, api.Waiting)
	steps(t, g, api.Did{Id: 1, Nodes: 1, Tokens: []int{1}})
	polls(t, g, 1, api.Done, 1)
	rooms(t, g, 8, 8, 0, 0)
	five := api.Ask{Prompt: []int{1, 1, 1, 1, 1}, New: 2, Params: greedy}
	asks(t, g, 2, five)
	steps(t, g, api.Did{Id: 2, Prefill: 3})
	fills(t, g, 2, 3)
	rooms(t, g, 8, 6, 2, 0)
	steps(t, g, api.Did{Id: 2, Prefill: 1})
	fills(t, g, 2, 4)
	rooms(t, g, 8, 6, 2, 0)
	if e := g.Cancel(2); e != api.OK {
		t.Errorf("P20.4: %d", e)
	}
	rooms(t, g, 8, 6, 0, 2)
	asks(t, g, 3, five)
	r := g.Step(3)
	if len(r.Did) != 1 || r.Did[0].Nodes != 1 || len(r.Did[0].Tokens) != 1 || r.Slots != 1 {
		t.Errorf("P20.8: %+v", r)
	}
	fills(t, g, 3, 5)
	five.Proposer = api.PGram
	asks(t, g, 4, five)
	for id, want := range map[int]api.Errno{4: api.ErrArg, 1: api.ErrRequest, 2: api.ErrRequest, 5: api.ErrRequest, 0: api.ErrRequest} {
		if e := g.Offer(id, nil); e != want {
			t.Errorf("P20.3: Offer(%d): %d, want %d", id, e, want)
		}
	}
	for _, picks := range [][]int{nil, {}, {1, 2, 5, 0, -3}} {
		if r := g.Step(picks...); !testaid.SameReport(r, api.Report{}) {
			t.Errorf("P20.15: picked %v: %+v", picks, r)
		}
	}
}

// The chapter's examples 1 and 2, P20.1's other edges, and the order of New's errors.
func TestNew(t *testing.T) {
	m := newModel(t, testaid.Tiny())
	with := func(change func(c *api.Serve)) api.Serve {
		c := tinyServe
		change(&c)
		return c
	}
	few := with(func(c *api.Serve) { c.Blocks = 5 })
	for i, c := range []struct {
		m    *model.Model
		v    api.Vocab
		c    api.Serve
		want api.Errno
	}{
		{m, tinyVocab, tinyServe, api.OK},
		{m, testaid.Vocab("a", [2]int{1, 1}), tinyServe, api.OK},
		{nil, tinyVocab, tinyServe, api.ErrArg},
		{nil, api.Vocab{}, api.Serve{}, api.ErrArg},
		{m, testaid.Vocab("abc"), tinyServe, api.ErrVocab},
		{m, testaid.Vocab("a"), tinyServe, api.ErrVocab},
		{m, testaid.Vocab("aa"), tinyServe, api.ErrVocab},
		{m, testaid.Vocab("ab", [2]int{1, 2}), tinyServe, api.ErrVocab},
		{m, testaid.Vocab("abc"), few, api.ErrVocab},
		{m, tinyVocab, few, api.ErrServe},
		{m, tinyVocab, with(func(c *api.Serve) { c.Blocks = 6 }), api.OK},
		{m, tinyVocab, with(func(c *api.Serve) { c.Blocks = 257 }), api.ErrServe},
		{m, tinyVocab, with(func(c *api.Serve) { c.Block = 17 }), api.ErrServe},
		{m, tinyVocab, with(func(c *api.Serve) { c.Chunk = 9 }), api.ErrServe},
		{m, tinyVocab, with(func(c *api.Serve) { c.Chunk = 0 }), api.ErrServe},
		{m, tinyVocab, with(func(c *api.Serve) { c.Budget = 1025 }), api.ErrServe},
		{m, tinyVocab, with(func(c *api.Serve) { c.Tree = 0 }), api.ErrServe},
		{m, tinyVocab, with(func(c *api.Serve) { c.Tree = 33 }), api.ErrServe},
		{m, tinyVocab, api.Serve{}, api.ErrServe},
	} {
		g, e := engine.New(c.m, c.v, c.c)
		if e != c.want || (g == nil) != (c.want != api.OK) {
			t.Errorf("P20.1: row %d: %v, %d, want %d", i, g, e, c.want)
		}
		if e == api.OK {
			rooms(t, g, c.c.Blocks, c.c.Blocks, 0, 0)
		}
	}
	for i, v := range testaid.WrongVocabs() {
		if g, e := engine.New(m, v, tinyServe); g != nil || e != api.ErrVocab {
			t.Errorf("P20.1: wrong vocabulary %d: %v, %d", i, g, e)
		}
	}
}
