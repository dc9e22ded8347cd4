package bestof_test

import (
	"math"
	"slices"
	"testing"

	"augur/api"
	"augur/bestof"
	"augur/engine"
	"augur/testaid"
)

// The flaws of a Start, in the order in which they are found.
const (
	noEngine = iota
	noModel
	badN
	tooMany
	badAsk
	flaws
)

// errorOf: by flaw.
var errorOf = [flaws]api.Errno{api.ErrArg, api.ErrArg, api.ErrArg, api.ErrMany, api.ErrToken}

// Each set of flaws: the first one tells, and nothing is submitted.
func TestOrderOfErrors(t *testing.T) {
	m, g := ring(t)
	for range 5 {
		submit(t, g, greedily(3, 1))
	}
	for set := 1; set < 1<<flaws; set++ {
		has := func(flaw int) bool { return set>>flaw&1 == 1 }
		e, judge, a := g, m, greedily(3, 1)
		if has(noEngine) {
			e = nil
		}
		if has(noModel) {
			judge = nil
		}
		if has(badAsk) {
			a.Prompt = []int{1, 4}
		}
		for _, n := range timesWith(has(badN), has(tooMany)) {
			for flaw, want := range errorOf {
				if has(flaw) {
					refuses(t, e, judge, a, n, want)
					break
				}
			}
		}
	}
	if live := g.Live(); !slices.Equal(live, []int{1, 2, 3, 4, 5}) {
		t.Errorf("P28.1: live are %v", live)
	}
	if id := submit(t, g, greedily(3, 1)); id != 6 {
		t.Errorf("P28.1: the next request is number %d", id)
	}
}

// timesWith: how many requests, beside five live ones. None that is below 1 is too many.
func timesWith(below, many bool) []int {
	switch {
	case below:
		return []int{0, -1, -16, math.MinInt, math.MinInt + 5}
	case many:
		return []int{12, 16, 17, 1 << 32, 1<<62 + 1, math.MaxInt - 5, math.MaxInt - 4, math.MaxInt}
	}
	return []int{1, 2, 11}
}

// As many as there is room for beside those that are live, and no more; who is over counts not.
func TestRoom(t *testing.T) {
	for live := range api.MaxLive + 1 {
		for over := range 3 {
			m, g := ring(t)
			for id := 1; id <= over; id++ {
				submit(t, g, greedily(1, 1))
				cancel(t, g, id)
			}
			for range live {
				submit(t, g, greedily(1, 1))
			}
			for _, n := range []int{api.MaxLive - live + 1, api.MaxLive + 1, math.MaxInt - live, math.MaxInt} {
				refuses(t, g, m, greedily(1, 1), n, api.ErrMany)
			}
			if len(g.Live()) != live {
				t.Fatalf("P28.1: %v are live, want %d", g.Live(), live)
			}
			if n := api.MaxLive - live; n > 0 {
				var want []int
				for i := range n {
					want = append(want, over+live+1+i)
				}
				isMadeOf(t, started(t, g, m, greedily(1, 1), n), want...)
			}
		}
	}
}

// faulty: requests that the ring's engine refuses, some with several faults.
func faulty() []api.Ask {
	with := func(change func(a *api.Ask)) api.Ask {
		a := greedily(3, 1)
		change(&a)
		return a
	}
	long := make([]int, 17)
	return []api.Ask{
		{}, {New: 1}, {Prompt: []int{}, New: -1}, greedily(0, 1), greedily(-1, 1), greedily(math.MinInt, 1), greedily(16, 1), greedily(math.MaxInt, 1),
		greedily(1, long...), greedily(1, long[:16]...), greedily(1, make([]int, 1<<20)...), greedily(1, 4), greedily(1, 1, -1), greedily(0, 4),
		with(func(a *api.Ask) { a.Proposer = 5 }), with(func(a *api.Ask) { a.Proposer = -1 }), with(func(a *api.Ask) { a.Params = api.Params{Seed: math.MaxUint64} }),
		with(func(a *api.Ask) { a.Params.Temp = -1 }), with(func(a *api.Ask) { a.Params.TopP = 1001 }), with(func(a *api.Ask) { a.Params.Penalty = 0 }),
		with(func(a *api.Ask) { a.Guide = "(" }), with(func(a *api.Ask) { a.Guide = "d" }), with(func(a *api.Ask) { a.Guide = "a{64}b{64}" }),
	}
}

// The errors of the engine's Submit, whatever the model that judges; none is submitted then.
func TestRefusedAsks(t *testing.T) {
	m, g := ring(t)
	_, plain := ring(t)
	other := newModel(t, testaid.Tiny())
	for i, a := range faulty() {
		_, want := plain.Submit(a)
		if want == api.OK {
			t.Fatalf("ask %d is not refused", i)
		}
		for _, n := range []int{1, 2, 16} {
			refuses(t, g, m, a, n, want)
			refuses(t, g, other, a, n, want)
		}
		refuses(t, g, m, a, 17, api.ErrMany)
		refuses(t, g, m, a, 0, api.ErrArg)
		if len(g.Live()) > 0 {
			t.Fatalf("P28.1: ask %d: live are %v", i, g.Live())
		}
	}
	isMadeOf(t, started(t, g, m, greedily(1, 1), 16), 1, 2, 3, 4, 5, 6, 7, 8, 9, 10, 11, 12, 13, 14, 15, 16)
	for _, a := range append(faulty(), greedily(1, 1)) {
		refuses(t, g, m, a, 1, api.ErrMany)
		refuses(t, g, m, a, 0, api.ErrArg)
	}
}

// Start takes no step: all are Waiting, and no block is in use.
func TestNoStep(t *testing.T) {
	m, g := ring(t)
	b := started(t, g, m, greedily(3, 1, 2, 3), 5)
	for _, id := range b.Ids() {
		if s, e := g.Poll(id); e != api.OK || s.Status != api.Waiting || len(s.Tokens) > 0 {
			t.Errorf("P28.1: request %d: %v, %d", id, s, e)
		}
	}
	if all, free, owned, kept := g.Room(); all != 8 || free != 8 || owned != 0 || kept != 0 {
		t.Errorf("P28.1: room %d %d %d %d", all, free, owned, kept)
	}
}

// The number i has the ask's Seed and i, also where that wraps round, and all else is the ask's.
func TestSeeds(t *testing.T) {
	for _, seed := range []uint64{0, 5, math.MaxInt64 - 3, math.MaxUint64, math.MaxUint64 - 7} {
		m := newModel(t, level())
		g, plain := newEngine(t, m, testaid.RingVocab(), testaid.RingServe), newEngine(t, m, testaid.RingVocab(), testaid.RingServe)
		a := byChance(seed, 12, 1, 2, 1, 2)
		a.Proposer, a.Guide, a.Params.TopK = api.PGram, "(a|b|c)*", 3
		n := 10
		b := started(t, g, m, a, n)
		for i := range n {
			submit(t, plain, of(a, i))
		}
		for len(plain.Live()) > 0 {
			if is, want := g.Step(b.Ids()...), plain.Step(plain.Live()...); !testaid.SameReport(is, want) {
				t.Fatalf("P28.1: Step tells %+v, want %+v", is, want)
			}
		}
		unlike := 0
		for i := range n {
			s, _ := g.Poll(i + 1)
			ref, e := testaid.Ref(m, testaid.RingVocab(), of(a, i))
			if e != api.OK || !testaid.SameState(s, api.State{Status: api.Done, Tokens: ref}) {
				t.Fatalf("P28.1: number %d behind the seed %d answers %v, want %v, %d", i, seed, s, ref, e)
			}
			if alike, _ := g.Poll(1); !slices.Equal(alike.Tokens, s.Tokens) {
				unlike++
			}
		}
		if unlike < 5 {
			t.Errorf("behind the seed %d only %d answers are unlike the first", seed, unlike)
		}
	}
}

// A request whose trees are handed in is such a one in a batch too.
func TestProposers(t *testing.T) {
	for kind := api.PNone; kind <= api.PRaw; kind++ {
		m, g := ring(t)
		a := greedily(3, 1)
		a.Proposer = kind
		want := api.ErrArg
		if kind == api.PRaw {
			want = api.OK
		}
		for _, id := range started(t, g, m, a, 3).Ids() {
			if e := g.Offer(id, nil); e != want {
				t.Errorf("P28.1: Offer to request %d of the proposer %d: the error %d, want %d", id, kind, e, want)
			}
		}
	}
}

// R3: of a nil batch.
func TestNil(t *testing.T) {
	var b *bestof.Batch
	isMadeOf(t, b)
	isReady(t, b, false)
	tellsNot(t, b, api.ErrArg)
	var none *engine.Engine
	for _, a := range append(faulty(), greedily(3, 1)) {
		for _, n := range []int{math.MinInt, 0, 1, 16, 17, math.MaxInt} {
			m, g := ring(t)
			refuses(t, none, m, a, n, api.ErrArg)
			refuses(t, none, nil, a, n, api.ErrArg)
			refuses(t, g, nil, a, n, api.ErrArg)
			if len(g.Live()) > 0 {
				t.Fatalf("P28.1: live are %v", g.Live())
			}
		}
	}
}
