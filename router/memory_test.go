package router_test

import (
	"runtime"
	"slices"
	"testing"

	"augur/api"
	"augur/router"
	"augur/testaid"
)

// stays: the call leaves a list and the room behind it as they are; then they are written over.
func stays[T comparable](t *testing.T, list []T, mark T, call func()) {
	t.Helper()
	same := testaid.Guard(list)
	call()
	if !same() {
		t.Fatalf("P27.9: what was handed in was changed, or the room behind it: %v", list[:cap(list)])
	}
	testaid.Overwrite(list, mark)
}

// spoilAnswers: of all that Poll tells.
func (p *play) spoilAnswers() {
	for id := range p.f.rows {
		state, _ := p.r.Poll(id + 1)
		testaid.Spoil(state.Tokens, 99)
	}
}

// spoilt: a call in which each list that was handed in or answered is written over behind it.
func (p *play) spoilt() {
	p.t.Helper()
	switch p.Below(8) {
	case 0, 1:
		a := p.Ask()
		p.f.submit(a)
		a.Prompt = testaid.Roomy(a.Prompt, 1)
		stays(p.t, a.Prompt, 1, func() { p.r.Submit(a) })
	case 2:
		p.lose(p.somewhere())
	case 3:
		p.join(p.somewhere())
	case 4:
		p.move(p.someone(), p.somewhere())
	case 5:
		p.cancel(p.someone())
	default:
		picks := testaid.Roomy(p.picks(), 1)
		want := p.f.step(picks...)
		stays(p.t, picks, 1, func() {
			all := p.r.Step(picks...)
			if !slices.EqualFunc(all, want, testaid.SameReport) {
				p.t.Fatalf("P27.8: %+v, want %+v", all, want)
			}
			for _, report := range all {
				testaid.SpoilReport(report)
			}
			testaid.Spoil(all, api.Report{Slots: 77})
		})
	}
}

// P27.9: whatever is written over what was handed in and answered, everything goes on as the words say.
func TestNothingShared(t *testing.T) {
	s := testaid.Source(279)
	for range 60 {
		p := newPlay(t, &s, 4)
		for range 80 {
			p.spoilt()
			p.spoilAnswers()
			p.f.agree("P27.9", p.r)
		}
		p.end()
	}
}

// R5: the lists of a report are each one's own: of each the others stay while it is written over.
func TestReportsApart(t *testing.T) {
	r := roomy(t, 3)
	for id := range 9 {
		submits(t, r, id+1, greedily(9, 1))
	}
	all := r.Step(1, 2, 3, 4, 5, 6, 7, 8, 9)
	for i := range all {
		for k, did := range all[i].Did {
			if !slices.Equal(did.Tokens, []int{1}) || did.Id != i+1+3*k {
				t.Fatalf("R5: engine %d: %+v", i, all[i])
			}
			testaid.Spoil(did.Tokens, 99)
		}
		testaid.Spoil(all[i].Out, 99)
		testaid.Spoil(all[i].Did, api.Did{Id: 77})
	}
	for id := range 9 {
		polls(t, r, id+1, api.Running, 1)
	}
}

// R5: what was told stays, whatever is told later: at an engine, parked, cancelled, done.
func TestToldStays(t *testing.T) {
	r := roomy(t, 2)
	submits(t, r, 1, greedily(3, 1))
	told := func() {
		t.Helper()
		a, _ := r.Poll(1)
		b, _ := r.Poll(1)
		was := slices.Clone(a.Tokens)
		testaid.Spoil(b.Tokens, 99)
		if c, _ := r.Poll(1); !slices.Equal(a.Tokens, was) || !testaid.SameState(a, c) {
			t.Errorf("R5: told are %v, then %v", a, c)
		}
	}
	r.Step(1)
	told()
	r.Lose(0)
	told()
	r.Lose(1)
	told()
	r.Join(1)
	told()
	r.Step(1)
	told()
	r.Step(1)
	r.Step(1)
	told()
	r.Lose(1)
	told()
	polls(t, r, 1, api.Done, 1, 1, 1)
}

// R5: the measures and the vocabulary that were handed in are neither changed nor kept: an engine that joins has those that they were.
func TestMeasuresAndVocabNotKept(t *testing.T) {
	v := api.Vocab{Base: testaid.Roomy([]byte("a"), 'x'), Pairs: testaid.Roomy([][2]int{{1, 1}}, [2]int{7, 7})}
	cs := testaid.Roomy([]api.Serve{testaid.TinyServe, testaid.TinyServe}, api.Serve{})
	m := newModel(t, testaid.Tiny())
	var r *router.Router
	stays(t, v.Base, 'x', func() {
		stays(t, v.Pairs, [2]int{7, 7}, func() {
			stays(t, cs, api.Serve{}, func() { r = newRouter(t, m, v, cs...) })
		})
	})
	guided := greedily(8, 1, 1, 1, 1)
	guided.Guide = "a+"
	submits(t, r, 1, guided)
	for range 3 {
		for i := range 2 {
			answers(t, "P27.5: Lose", r.Lose(i), api.OK)
		}
		answers(t, "P27.6: Join(1)", r.Join(1), api.OK)
		answers(t, "P27.6: Join(0)", r.Join(0), api.OK)
		steps(t, r, []int{1}, api.Report{}, api.Report{Did: []api.Did{{Id: 1, Prefill: 3}}, Slots: 3})
		wrong := greedily(1, 1)
		wrong.Guide = "x+"
		refuses(t, r, api.ErrGuide, wrong)
	}
}

// R6: two routers over one model know nothing of one another.
func TestRoutersApart(t *testing.T) {
	s := testaid.Source(270)
	for range 10 {
		p := newPlay(t, &s, 3)
		other := newRouter(t, p.f.m, p.f.v, p.f.cs...)
		for n := range 60 {
			p.act()
			other.Submit(p.Ask())
			other.Step(n, n/2, 1, 2)
			other.Lose(n % 3)
			other.Cancel(n / 2)
			other.Join((n + 1) % 3)
			p.f.agree("R6: beside another router", p.r)
		}
		p.end()
	}
}

// All goroutines of a Step have ended when it answers.
func TestGoroutinesEnd(t *testing.T) {
	r := roomy(t, api.MaxLive)
	before := runtime.NumGoroutine()
	for id := 1; id <= 100; id++ {
		submits(t, r, id, greedily(1, 1))
		r.Lose(id % 16)
		r.Step(id)
		r.Join(id % 16)
		polls(t, r, id, api.Done, 1)
	}
	// One that has told that it is done may need a moment to be gone.
	for n := 0; runtime.NumGoroutine() > before; n++ {
		if n > 1e6 {
			t.Fatalf("%d goroutines, %d before", runtime.NumGoroutine(), before)
		}
		runtime.Gosched()
	}
}

// spent: how many bytes of memory a call takes.
func spent(call func()) uint64 {
	var before, after runtime.MemStats
	runtime.ReadMemStats(&before)
	call()
	runtime.ReadMemStats(&after)
	return after.TotalAlloc - before.TotalAlloc
}

// R1: a prompt and a list of measures that are too long are refused by their length; long picks are not copied.
func TestLongLists(t *testing.T) {
	r, m := roomy(t, 2), newModel(t, testaid.Tiny())
	submits(t, r, 1, greedily(9, 1))
	long, many, picks := greedily(1, make([]int, 1<<20)...), make([]api.Serve, 1<<16), slices.Repeat([]int{1}, 1<<20)
	for what, call := range map[string]func(){
		"a prompt of 2^20 tokens":  func() { refuses(t, r, api.ErrLong, long) },
		"measures of 2^16 engines": func() { router.New(m, testaid.TinyVocab(), many...) },
		"2^20 picks":               func() { r.Step(picks...) },
	} {
		if n := spent(call); n > 1<<17 {
			t.Errorf("R1: %s took %d bytes", what, n)
		}
	}
	polls(t, r, 1, api.Running, 1)
}
