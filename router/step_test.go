package router_test

import (
	"math"
	"slices"
	"testing"

	"augur/api"
	"augur/router"
	"augur/testaid"
)

// P27.7: at an engine, parked, and begun again with fewer tokens than were told: what was told stays.
func TestCancel(t *testing.T) {
	r := roomy(t, 2)
	for id := range 4 {
		submits(t, r, id+1, greedily(4, 1))
	}
	for range 2 {
		steps(t, r, []int{1, 2, 3}, one(1, 3), one(2))
	}
	cancels := func(id int, told ...int) {
		t.Helper()
		answers(t, "P27.7: Cancel", r.Cancel(id), api.OK)
		for range 2 {
			polls(t, r, id, api.Cancelled, told...)
			isNowhere(t, r, id)
			answers(t, "P27.7: Cancel again", r.Cancel(id), api.ErrRequest)
			answers(t, "P27.4: one that is over", r.Move(id, 0), api.ErrRequest)
		}
	}
	cancels(1, 1, 1)
	answers(t, "P27.5: Lose(1)", r.Lose(1), api.OK)
	steps(t, r, []int{1, 2, 3, 4}, one(3, 2, 4), api.Report{})
	// 2 has one token at its engine now, and was told two.
	cancels(2, 1, 1)
	answers(t, "P27.5: Lose(0)", r.Lose(0), api.OK)
	cancels(3, 1, 1, 1)
	cancels(4, 1)
	for _, id := range append(nobody(), 0, 5) {
		answers(t, "P27.7: nobody", r.Cancel(id), api.ErrRequest)
	}
	// Who was cancelled is taken up no more, and is at no engine.
	answers(t, "P27.6: Join(0)", r.Join(0), api.OK)
	steps(t, r, []int{1, 2, 3, 4}, api.Report{}, api.Report{})
	for id := range api.MaxLive {
		submits(t, r, id+5, greedily(1, 1))
	}
	polls(t, r, 1, api.Cancelled, 1, 1)
	polls(t, r, 2, api.Cancelled, 1, 1)
	polls(t, r, 3, api.Cancelled, 1, 1, 1)
	polls(t, r, 4, api.Cancelled, 1)
}

// P27.7: who is cancelled holds no blocks any more: others find them free.
func TestCancelledBlocks(t *testing.T) {
	least := api.Serve{Blocks: 6, Block: 2, Budget: 12, Chunk: 12, Tree: 1}
	r := newRouter(t, newModel(t, testaid.Tiny()), testaid.TinyVocab(), least)
	whole := slices.Repeat([]int{1, 2}, 5)
	submits(t, r, 1, greedily(2, whole...))
	submits(t, r, 2, greedily(2, slices.Repeat([]int{2, 1}, 5)...))
	steps(t, r, []int{1, 2}, api.Report{Did: []api.Did{{Id: 1, Prefill: 9}}, Slots: 9})
	steps(t, r, []int{2}, api.Report{})
	answers(t, "P27.7: Cancel(1)", r.Cancel(1), api.OK)
	steps(t, r, []int{2}, api.Report{Did: []api.Did{{Id: 2, Prefill: 9}}, Slots: 9})
}

// P27.8: a report for each engine in the order of their numbers, an empty one of a lost engine.
func TestReports(t *testing.T) {
	r, none := roomy(t, 4), api.Report{}
	for id := range 8 {
		submits(t, r, id+1, greedily(9, 1))
	}
	all := []int{1, 2, 3, 4, 5, 6, 7, 8}
	steps(t, r, all, one(1, 5), one(2, 6), one(3, 7), one(4, 8))
	steps(t, r, nil, none, none, none, none)
	steps(t, r, []int{7, 2}, none, one(2), one(7), none)
	answers(t, "P27.5: Lose(2)", r.Lose(2), api.OK)
	steps(t, r, all, one(1, 5, 3), one(2, 6, 7), none, one(4, 8))
	answers(t, "P27.5: Lose(0)", r.Lose(0), api.OK)
	steps(t, r, all, none, one(2, 6, 7, 3), none, one(4, 8, 1, 5))
	answers(t, "P27.6: Join(2)", r.Join(2), api.OK)
	steps(t, r, all, none, one(2, 6, 7, 3), none, one(4, 8, 1, 5))
	answers(t, "P27.4: Move(2, 2)", r.Move(2, 2), api.OK)
	// A request that was begun again is the youngest of its engine, whatever its number.
	answers(t, "P27.4: Move(1, 1)", r.Move(1, 1), api.OK)
	steps(t, r, all, none, one(6, 7, 3, 1), one(2), one(4, 8, 5))
}

// P27.8: how often and in which order the picks stand tells nothing, nor do numbers of nobody, of such as are over, or of the engines' own.
func TestPicks(t *testing.T) {
	for _, picks := range [][]int{{2, 3}, {3, 2}, {3, 3, 2, 2, 3}, append(nobody(), 0, 3, 5, 4, 2, 6), append(slices.Repeat([]int{7}, 1<<16), 2, 3)} {
		r := roomy(t, 2)
		for id := range 6 {
			submits(t, r, id+1, greedily(3, 1))
		}
		answers(t, "P27.7: Cancel(5)", r.Cancel(5), api.OK)
		answers(t, "P27.7: Cancel(4)", r.Cancel(4), api.OK)
		answers(t, "P27.7: Cancel(6)", r.Cancel(6), api.OK)
		steps(t, r, picks, one(3), one(2))
		polls(t, r, 1, api.Waiting)
		polls(t, r, 2, api.Running, 1)
		polls(t, r, 3, api.Running, 1)
	}
}

// P27.8: who lost its blocks has the router's number too.
func TestOut(t *testing.T) {
	least := api.Serve{Blocks: 6, Block: 2, Budget: 12, Chunk: 12, Tree: 1}
	r := newRouter(t, newModel(t, testaid.Tiny()), testaid.TinyVocab(), testaid.TinyServe, least)
	submits(t, r, 1, greedily(1, 1))
	submits(t, r, 2, greedily(6, 1, 2, 1, 2, 1))
	submits(t, r, 3, greedily(1, 1))
	submits(t, r, 4, greedily(6, 2, 1, 2, 1, 2))
	fill := func(id int) api.Did { return api.Did{Id: id, Prefill: 4} }
	steps(t, r, []int{2, 4}, api.Report{}, api.Report{Did: []api.Did{fill(2), fill(4)}, Slots: 8})
	for range 20 {
		reports := r.Step(2)
		if out := reports[1].Out; len(reports[0].Out) != 0 || len(out) > 0 && !slices.Equal(out, []int{4}) {
			t.Fatalf("P27.8: out are %v and %v", reports[0].Out, out)
		} else if len(out) > 0 {
			polls(t, r, 4, api.Waiting)
			return
		}
	}
	t.Error("nobody lost its blocks")
}

// "as it was asked": whatever an ask has, its request is begun again with it.
func TestAskedAgain(t *testing.T) {
	m, v := newModel(t, testaid.Ring()), testaid.RingVocab()
	sure := api.Params{Temp: 900, TopP: 1000, Penalty: 200, Seed: 5}
	asks := []api.Ask{
		{Prompt: []int{1, 2, 3, 1, 2}, New: 6, Params: testaid.Greedy, Proposer: api.PGram},
		{Prompt: []int{1}, New: 9, Params: testaid.Greedy, Proposer: api.PMedusa, Guide: "b*"},
		{Prompt: []int{1, 2, 3}, New: 13, Params: sure, Proposer: api.PBoth},
		{Prompt: []int{3}, New: 7, Params: sure, Proposer: api.PRaw, Guide: "(a|b|c)+"},
		{Prompt: []int{2, 2}, New: 8, Params: api.Params{Temp: 300, TopK: 2, TopP: 900, Penalty: 256, Seed: 1 << 63}},
	}
	plain, r := newRouter(t, m, v, testaid.RingServe), newRouter(t, m, v, testaid.RingServe, testaid.RingServe)
	for i, a := range asks {
		submits(t, plain, i+1, a)
		submits(t, r, i+1, a)
	}
	all := []int{1, 2, 3, 4, 5}
	r.Step(all...)
	answers(t, "P27.5: Lose(0)", r.Lose(0), api.OK)
	answers(t, "P27.6: Join(0)", r.Join(0), api.OK)
	answers(t, "P27.5: Lose(1)", r.Lose(1), api.OK)
	for n := range 60 {
		want := plain.Step(all...)
		steps(t, r, all, want[0], api.Report{})
		if n == 50 {
			for i, a := range asks {
				ref, e := testaid.Ref(m, v, a)
				answers(t, "Ref", e, api.OK)
				polls(t, r, i+1, api.Done, ref...)
			}
		}
	}
}

// refusedCalls: each call of a router in ways that it must refuse.
func refusedCalls(p *play) {
	p.t.Helper()
	a := p.Ask()
	a.New = 0
	if id, e := p.r.Submit(a); id != 0 || e == api.OK {
		p.t.Fatalf("P27.2: %d, %d", id, e)
	}
	for _, id := range []int{-1, 0, len(p.f.rows) + 1, math.MinInt, math.MaxInt} {
		if p.r.Cancel(id) != api.ErrRequest || p.r.Move(id, 0) != api.ErrRequest {
			p.t.Fatalf("P27.7: Cancel or Move of %d", id)
		}
	}
	for i := -1; i <= len(p.f.up); i++ {
		switch {
		case i < 0 || i == len(p.f.up):
			answers(p.t, "P27.5", p.r.Lose(i), api.ErrArg)
			answers(p.t, "P27.6", p.r.Join(i), api.ErrArg)
		case p.f.up[i] == nil:
			answers(p.t, "P27.5", p.r.Lose(i), api.ErrLost)
		default:
			answers(p.t, "P27.6", p.r.Join(i), api.ErrArg)
		}
		for id, row := range p.f.rows {
			if row.at == over || i < 0 || i == len(p.f.up) || row.at != i && !p.f.room(i) {
				if p.r.Move(id+1, i) == api.OK {
					p.t.Fatalf("P27.4: Move(%d, %d)", id+1, i)
				}
			}
		}
	}
}

// R2: a call that is refused changes nothing that another call could tell.
func TestRefusedCallsChangeNothing(t *testing.T) {
	s := testaid.Source(272)
	for range 30 {
		p := newPlay(t, &s, 4)
		for n := range 60 {
			if n == 20 {
				p.crowd()
			}
			p.act()
			refusedCalls(p)
			p.f.agree("R2: behind refused calls", p.r)
		}
		p.end()
	}
}

// W12: only the engine that has a request needs to be picked for; whoever is parked waits until there is room.
func TestOthersStand(t *testing.T) {
	r := roomy(t, 2)
	for id := range 32 {
		submits(t, r, id+1, greedily(3, 1))
	}
	answers(t, "P27.5: Lose(0)", r.Lose(0), api.OK)
	live := func() (at, waiting int) {
		for id := 1; id <= 32; id++ {
			switch n, e := r.Where(id); {
			case e == api.OK && n == 1:
				at++
			case e == api.OK:
				waiting++
			}
		}
		return at, waiting
	}
	for id := 2; id <= 32; id += 2 {
		at, waiting := live()
		if at != 16 && waiting > 0 {
			t.Fatalf("W12: %d at the engine, %d parked", at, waiting)
		}
		for range 3 {
			r.Step(id)
		}
		polls(t, r, id, api.Done, 1, 1, 1)
		r.Step()
	}
	if at, waiting := live(); at != 16 || waiting != 0 {
		t.Errorf("W12: %d at the engine, %d parked", at, waiting)
	}
	polls(t, r, 1, api.Waiting)
}

// Two routers over one model: a request gets the same tokens, whatever is done with either (W6, W12).
func TestTwoRouters(t *testing.T) {
	s := testaid.Source(276)
	for range 20 {
		w, v := s.Small()
		m, ask := newModel(t, w), s.Asker(w.Config)
		build := func() *router.Router {
			return newRouter(t, m, v, s.Serve(w.Config.Len), s.Serve(w.Config.Len))
		}
		one, other := build(), build()
		for id := 1; id <= 8; id++ {
			a := ask.Ask()
			submits(t, one, id, a)
			submits(t, other, id, a)
		}
		for n := range 600 {
			one.Step(1, 2, 3, 4, 5, 6, 7, 8)
			other.Step(8, 2, 3, 4, 5, 6, 7, 1)
			if n < 40 {
				one.Move(1+s.Below(8), s.Below(2))
				other.Lose(n % 2)
				other.Join(n % 2)
			}
		}
		for id := 1; id <= 8; id++ {
			a, _ := one.Poll(id)
			b, _ := other.Poll(id)
			if a.Status != api.Done || !testaid.SameState(a, b) {
				t.Fatalf("W6: request %d: %v and %v", id, a, b)
			}
		}
	}
}
