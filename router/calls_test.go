package router_test

import (
	"math"
	"slices"
	"testing"

	"augur/api"
	"augur/engine"
	"augur/router"
	"augur/testaid"
)

// wrongServes: measures that no engine of chapter 20's model has.
func wrongServes() []api.Serve {
	few, coarse, narrow, bare := testaid.TinyServe, testaid.TinyServe, testaid.TinyServe, testaid.TinyServe
	few.Blocks, coarse.Block, narrow.Budget, bare.Tree = 5, api.MaxBlock+1, 2, 0
	return []api.Serve{{}, few, coarse, narrow, bare, {Blocks: math.MaxInt, Block: math.MaxInt, Budget: math.MaxInt, Chunk: math.MaxInt, Tree: math.MaxInt}}
}

// nobody: numbers that no request or engine has while there are fewer than 1000.
func nobody() []int { return []int{-1, 1000, math.MinInt, math.MaxInt} }

// P27.1: from one engine to sixteen; the number of measures comes ahead of what they are.
func TestNew(t *testing.T) {
	m, v, c := newModel(t, testaid.Tiny()), testaid.TinyVocab(), testaid.TinyServe
	refusedNew := func(want api.Errno, v api.Vocab, cs ...api.Serve) {
		t.Helper()
		if r, e := router.New(m, v, cs...); r != nil || e != want {
			t.Errorf("P27.1: New over %d engines: %v, %d, want %d", len(cs), r != nil, e, want)
		}
		if r, e := router.New(nil, v, cs...); r != nil || e != api.ErrArg {
			t.Errorf("R3: no model: %d", e)
		}
	}
	for n := 1; n <= api.MaxLive; n++ {
		r := tiny(t, n)
		steps(t, r, []int{1}, make([]api.Report, n)...)
		for i := range n {
			answers(t, "P27.1: all are up", r.Join(i), api.ErrArg)
		}
		answers(t, "P27.1: there is no other one", r.Lose(n), api.ErrArg)
		isNowhere(t, r, 0, 1, -1)
		submits(t, r, 1, greedily(1, 1))
	}
	for _, v := range append(testaid.WrongVocabs(), v, testaid.Vocab("a"), testaid.Vocab("abc")) {
		refusedNew(api.ErrArg, v)
		refusedNew(api.ErrArg, v, []api.Serve{}...)
		refusedNew(api.ErrArg, v, slices.Repeat([]api.Serve{c}, api.MaxLive+1)...)
		refusedNew(api.ErrArg, v, make([]api.Serve, 1<<20)...)
		for _, wrong := range wrongServes() {
			_, want := engine.New(m, v, wrong)
			refusedNew(want, v, wrong)
		}
	}
	refusedNew(api.ErrVocab, testaid.Vocab("abc"), c, c)
	for _, wrong := range wrongServes() {
		for i := range api.MaxLive {
			cs := slices.Repeat([]api.Serve{c}, api.MaxLive)
			cs[i] = wrong
			refusedNew(api.ErrServe, v, cs...)
		}
	}
}

// R3: of a nil router.
func TestNil(t *testing.T) {
	var r *router.Router
	for _, a := range append(faulty(), greedily(1, 1)) {
		refuses(t, r, api.ErrArg, a)
	}
	for _, id := range append(nobody(), 0, 1) {
		if n, e := r.Where(id); n != 0 || e != api.ErrArg {
			t.Errorf("P27.3: Where(%d) = %d, %d", id, n, e)
		}
		if s, e := r.Poll(id); e != api.ErrArg || !testaid.SameState(s, api.State{}) {
			t.Errorf("P27.3: Poll(%d) = %v, %d", id, s, e)
		}
		answers(t, "P27.4: Move", r.Move(id, id), api.ErrArg)
		answers(t, "P27.5: Lose", r.Lose(id), api.ErrArg)
		answers(t, "P27.6: Join", r.Join(id), api.ErrArg)
		answers(t, "P27.7: Cancel", r.Cancel(id), api.ErrArg)
		steps(t, r, []int{id, 1})
	}
	steps(t, r, nil)
}

// faulty: requests that chapter 20's engine refuses, some with several faults.
func faulty() []api.Ask {
	long := make([]int, 13)
	guided := func(expr string) api.Ask {
		a := greedily(1, 1)
		a.Guide = expr
		return a
	}
	kind := greedily(1, 1)
	kind.Proposer = 5
	return []api.Ask{
		{}, {New: 1}, {Prompt: []int{}, New: -1}, greedily(0, 1), greedily(-1, 1), greedily(math.MinInt, 1), greedily(12, 1), greedily(math.MaxInt, 1),
		greedily(1, long...), greedily(1, long[:12]...), greedily(1, make([]int, 1<<20)...), greedily(1, 3), greedily(1, 1, -1), greedily(0, 3), kind,
		{Prompt: []int{1}, New: 1}, guided("("), guided("c"), guided("a{64}b{64}"),
	}
}

// P27.2: the errors of the next engine's Submit; what is refused has no number.
func TestSubmitRefuses(t *testing.T) {
	r := roomy(t, 2)
	plain, e := engine.New(newModel(t, testaid.Tiny()), testaid.TinyVocab(), testaid.TinyServe)
	answers(t, "engine.New", e, api.OK)
	for id := 1; id <= 2*api.MaxLive; id++ {
		for _, a := range faulty() {
			_, want := plain.Submit(a)
			refuses(t, r, want, a)
		}
		submits(t, r, id, greedily(2, 1))
	}
	// No engine has room: that comes ahead of what is asked.
	for _, a := range append(faulty(), greedily(1, 1)) {
		refuses(t, r, api.ErrMany, a)
	}
	answers(t, "P27.7: Cancel(4)", r.Cancel(4), api.OK)
	for _, a := range faulty() {
		_, want := plain.Submit(a)
		refuses(t, r, want, a)
	}
	submits(t, r, 33, greedily(2, 1))
	// No engine is up: that comes ahead of everything.
	for i := range 2 {
		answers(t, "P27.5: Lose", r.Lose(i), api.OK)
	}
	for _, a := range append(faulty(), greedily(1, 1)) {
		refuses(t, r, api.ErrLost, a)
	}
	answers(t, "P27.6: Join(1)", r.Join(1), api.OK)
	refuses(t, r, api.ErrMany, greedily(2, 1))
}

// P27.2: the engine with the fewest live requests, of several the one with the lowest number, is the next; one that is lost is not.
func TestNextEngine(t *testing.T) {
	r := roomy(t, 3)
	for id := range 7 {
		submits(t, r, id+1, greedily(2, 1))
	}
	are(t, r, 0, 1, 2, 0, 1, 2, 0)
	// Who is over counts no more: 3, 2 and 1 are live, and behind the steps 1, 2 and 0.
	answers(t, "P27.7: Cancel(3)", r.Cancel(3), api.OK)
	for range 2 {
		r.Step(1, 4, 6)
	}
	for i, want := range []int{2, 0, 2, 0, 1, 2} {
		submits(t, r, 8+i, greedily(2, 1))
		if n, e := r.Where(8 + i); n != want || e != api.OK {
			t.Fatalf("P27.2: request %d is at %d, %d, want %d", 8+i, n, e, want)
		}
	}
	answers(t, "P27.5: Lose(0)", r.Lose(0), api.OK)
	// Each had three: those of engine 0 go to 1, 2, 1.
	for i, want := range []int{1, 2, 1} {
		if n, _ := r.Where([]int{7, 9, 11}[i]); n != want {
			t.Errorf("P27.5: request %d is at %d, want %d", []int{7, 9, 11}[i], n, want)
		}
	}
	submits(t, r, 14, greedily(2, 1))
	submits(t, r, 15, greedily(2, 1))
	for id, want := range map[int]int{14: 2, 15: 1} {
		if n, _ := r.Where(id); n != want {
			t.Errorf("P27.2: request %d is at %d, want %d", id, n, want)
		}
	}
}

// P27.3: of numbers of nobody, and of such as are over.
func TestWhereAndPoll(t *testing.T) {
	r := roomy(t, 1)
	for id := range 3 {
		submits(t, r, id+1, greedily(id+1, 1))
	}
	steps(t, r, []int{1, 2}, one(1, 2))
	answers(t, "P27.7: Cancel(2)", r.Cancel(2), api.OK)
	for range 3 {
		isNowhere(t, r, append(nobody(), 0, 4, 1, 2)...)
		for _, id := range append(nobody(), 0, 4) {
			if s, e := r.Poll(id); e != api.ErrRequest || !testaid.SameState(s, api.State{}) {
				t.Errorf("P27.3: Poll(%d) = %v, %d", id, s, e)
			}
		}
		polls(t, r, 1, api.Done, 1)
		polls(t, r, 2, api.Cancelled, 1)
		polls(t, r, 3, api.Waiting)
		if n, e := r.Where(3); n != 0 && n != -1 || e != api.OK {
			t.Errorf("P27.3: Where(3) = %d, %d", n, e)
		}
		r.Lose(0)
	}
}

// crowded: three engines: the first has room for one more, the second is lost, the third is full; 1 is Done, 4 and 7 are Cancelled, 2 and 5 came to the first, the others of the second (8, 11, ..) are parked.
func crowded(t *testing.T) *router.Router {
	t.Helper()
	r := roomy(t, 3)
	submits(t, r, 1, greedily(1, 1))
	for id := 2; id <= 48; id++ {
		submits(t, r, id, greedily(5, 1))
	}
	steps(t, r, []int{1, 10, 3, 8}, one(1, 10), one(8), one(3))
	answers(t, "P27.7: Cancel(4)", r.Cancel(4), api.OK)
	answers(t, "P27.5: Lose(1)", r.Lose(1), api.OK)
	answers(t, "P27.7: Cancel(7)", r.Cancel(7), api.OK)
	for id, want := range map[int]int{2: 0, 5: 0, 8: -1, 11: -1, 47: -1, 10: 0, 46: 0, 3: 2, 48: 2} {
		if n, e := r.Where(id); n != want || e != api.OK {
			t.Fatalf("P27.3: Where(%d) = %d, %d, want %d", id, n, e, want)
		}
	}
	return r
}

// P27.4: each error, in their order, for each kind of request and of engine.
func TestMoveErrors(t *testing.T) {
	r := crowded(t)
	moves := func(id, to int, want api.Errno) {
		t.Helper()
		was, wrong := r.Where(id)
		if e := r.Move(id, to); e != want {
			t.Errorf("P27.4: Move(%d, %d): %d, want %d", id, to, e, want)
		}
		if now, e := r.Where(id); now != was || e != wrong {
			t.Errorf("P27.4: Move(%d, %d), refused or needless: at %d, was at %d", id, to, now, was)
		}
	}
	for _, id := range append(nobody(), 0, 49, 1, 4, 7) {
		for _, to := range append(nobody(), 0, 1, 2, 3) {
			moves(id, to, api.ErrRequest)
		}
	}
	for _, id := range []int{2, 10, 3, 8, 47} {
		for _, to := range append(nobody(), 3) {
			moves(id, to, api.ErrArg)
		}
		moves(id, 1, api.ErrLost)
	}
	for _, id := range []int{2, 10, 8, 47} {
		moves(id, 2, api.ErrMany)
	}
	// Where it is already nothing is done, and no room is asked for.
	moves(3, 2, api.OK)
	moves(10, 0, api.OK)
	polls(t, r, 10, api.Running, 1)
	polls(t, r, 3, api.Running, 1)
	answers(t, "P27.4: a parked one", r.Move(11, 0), api.OK)
	for _, id := range []int{3, 8} {
		moves(id, 0, api.ErrMany)
	}
	// Nobody was begun again by what was refused: each is told its second token.
	steps(t, r, []int{10, 3, 11}, one(10, 11), api.Report{}, one(3))
	polls(t, r, 10, api.Running, 1, 1)
	polls(t, r, 3, api.Running, 1, 1)
	polls(t, r, 8, api.Waiting, 1)
}

// P27.4: who is moved is cancelled where it was, begins again elsewhere, and is told nothing less meanwhile.
func TestMove(t *testing.T) {
	r, none := roomy(t, 2), api.Report{}
	submits(t, r, 1, greedily(4, 1))
	for range 2 {
		steps(t, r, []int{1}, one(1), none)
	}
	for i := range 20 {
		to := 1 - i%2
		answers(t, "P27.4: Move", r.Move(1, to), api.OK)
		are(t, r, to)
		polls(t, r, 1, api.Waiting, 1, 1)
		want := []api.Report{none, none}
		want[to] = one(1)
		steps(t, r, []int{1}, want...)
		polls(t, r, 1, api.Running, 1, 1)
	}
	// Nobody is left at the engines that it went from: there is room for all.
	for id := 2; id <= 32; id++ {
		submits(t, r, id, greedily(1, 1))
	}
	refuses(t, r, api.ErrMany, greedily(1, 1))
	steps(t, r, []int{1}, one(1), none)
	steps(t, r, []int{1}, one(1), none)
	steps(t, r, []int{1}, one(1), none)
	polls(t, r, 1, api.Done, 1, 1, 1, 1)
	steps(t, r, []int{1}, none, none)
}

// P27.5: what is lost twice, or is none; who is over is told as before, at every loss.
func TestLose(t *testing.T) {
	r := roomy(t, 2)
	for _, i := range append(nobody(), 2) {
		answers(t, "P27.5: no such engine", r.Lose(i), api.ErrArg)
		answers(t, "P27.6: no such engine", r.Join(i), api.ErrArg)
	}
	submits(t, r, 1, greedily(1, 1))
	submits(t, r, 2, greedily(3, 1))
	submits(t, r, 3, greedily(3, 1))
	submits(t, r, 4, greedily(3, 1))
	steps(t, r, []int{1, 3, 4}, one(1, 3), one(4))
	answers(t, "P27.7: Cancel(3)", r.Cancel(3), api.OK)
	for _, i := range []int{1, 0, 1, 0, 1, 0} {
		answers(t, "P27.5: Lose", r.Lose(i), api.OK)
		answers(t, "P27.5: Lose again", r.Lose(i), api.ErrLost)
		polls(t, r, 1, api.Done, 1)
		polls(t, r, 2, api.Waiting)
		polls(t, r, 3, api.Cancelled, 1)
		polls(t, r, 4, api.Waiting, 1)
		isNowhere(t, r, 1, 3)
		answers(t, "P27.7: one that is over", r.Cancel(1), api.ErrRequest)
		answers(t, "P27.7: one that is over", r.Cancel(3), api.ErrRequest)
		for _, id := range []int{2, 4} {
			if n, e := r.Where(id); n != 1-i || e != api.OK {
				t.Fatalf("P27.5: Where(%d) = %d, %d", id, n, e)
			}
		}
		answers(t, "P27.6: Join", r.Join(i), api.OK)
		answers(t, "P27.6: Join again", r.Join(i), api.ErrArg)
	}
}

// P27.5: parked requests are taken up in rising order of their numbers, whenever they were parked.
func TestTakenUpInOrder(t *testing.T) {
	r := roomy(t, 3)
	for id := range 48 {
		submits(t, r, id+1, greedily(2, 1))
	}
	// 1, 4, .. are parked, then 3, 6, .. too, and 2, 5, .. at last.
	for _, i := range []int{0, 2, 1} {
		answers(t, "P27.5: Lose", r.Lose(i), api.OK)
	}
	for k, i := range []int{1, 0, 2} {
		answers(t, "P27.6: Join", r.Join(i), api.OK)
		for id := 1; id <= 48; id++ {
			want := -1
			if id <= 16*(k+1) {
				want = []int{1, 0, 2}[(id-1)/16]
			}
			if n, e := r.Where(id); n != want || e != api.OK {
				t.Fatalf("P27.6: Where(%d) = %d, %d, want %d", id, n, e, want)
			}
		}
	}
}

// P27.5: one that was parked before goes to the engine that has room ahead of those that are parked by the loss of another.
func TestParkedBefore(t *testing.T) {
	r := roomy(t, 3)
	for id := range 48 {
		submits(t, r, id+1, greedily(2, 1))
	}
	answers(t, "P27.5: Lose(0)", r.Lose(0), api.OK)
	answers(t, "P27.7: Cancel(2)", r.Cancel(2), api.OK)
	// Behind a Cancel nobody is taken up yet; a Submit may come ahead.
	isParked := func(ids ...int) {
		t.Helper()
		for _, id := range ids {
			if n, e := r.Where(id); n != -1 || e != api.OK {
				t.Fatalf("P27.5: Where(%d) = %d, %d", id, n, e)
			}
		}
	}
	isParked(1, 4, 46)
	submits(t, r, 49, greedily(2, 1))
	answers(t, "P27.7: Cancel(49)", r.Cancel(49), api.OK)
	isParked(1, 4, 46)
	answers(t, "P27.5: Lose(2)", r.Lose(2), api.OK)
	if n, e := r.Where(1); n != 1 || e != api.OK {
		t.Fatalf("P27.5: Where(1) = %d, %d", n, e)
	}
	isParked(3, 4, 6, 46, 48)
	// In a Step they are taken up ahead of the engines' steps: who is picked goes on with it.
	answers(t, "P27.7: Cancel(5)", r.Cancel(5), api.OK)
	isParked(3, 4)
	steps(t, r, []int{4, 3, 6}, api.Report{}, one(3), api.Report{})
	isParked(4, 6)
	polls(t, r, 3, api.Running, 1)
}

// P27.6: the new engine has the measures of the one that was lost, and nothing of its requests or prompts.
func TestJoin(t *testing.T) {
	slow := testaid.TinyServe
	slow.Chunk = 2
	r := newRouter(t, newModel(t, testaid.Tiny()), testaid.TinyVocab(), testaid.TinyServe, slow)
	submits(t, r, 1, greedily(1, 1, 2, 1, 2, 1, 2, 1))
	submits(t, r, 2, greedily(1, 1, 2, 1, 2, 1, 2, 1))
	fills := func(id, n int) api.Report {
		return api.Report{Did: []api.Did{{Id: id, Prefill: n}}, Slots: n}
	}
	for range 3 {
		for range 2 {
			steps(t, r, []int{1, 2}, fills(1, 3), fills(2, 2))
		}
		for i := range 2 {
			answers(t, "P27.5: Lose", r.Lose(i), api.OK)
			are(t, r, 1-i, 1-i)
			answers(t, "P27.6: Join", r.Join(i), api.OK)
			answers(t, "P27.4: Move", r.Move(i+1, i), api.OK)
			are(t, r, 0, 1)
		}
	}
	steps(t, r, []int{2}, api.Report{}, fills(2, 2))
}
