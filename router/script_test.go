package router_test

import (
	"math"
	"slices"
	"testing"

	"augur/api"
	"augur/engine"
	"augur/model"
	"augur/router"
	"augur/testaid"
)

func newModel(t *testing.T, w api.Weights) *model.Model {
	t.Helper()
	m, e := model.New(w)
	if e != api.OK {
		t.Fatalf("no model: %d", e)
	}
	return m
}

func newRouter(t *testing.T, m *model.Model, v api.Vocab, cs ...api.Serve) *router.Router {
	t.Helper()
	r, e := router.New(m, v, cs...)
	if e != api.OK || r == nil {
		t.Fatalf("P27.1: no router over %d engines: %d", len(cs), e)
	}
	return r
}

// play: a router and the words' fleet, and what is drawn for both.
type play struct {
	t *testing.T
	f *fleet
	r *router.Router
	*testaid.Asker
	// told: how many tokens each request was told.
	told []int
}

// newPlay: over a drawn model and up to so many engines, one at least, of unlike measures.
func newPlay(t *testing.T, s *testaid.Source, most int) *play {
	t.Helper()
	w, v := s.Small()
	m := newModel(t, w)
	var cs []api.Serve
	for range 1 + s.Below(most) {
		cs = append(cs, s.Serve(w.Config.Len))
	}
	return &play{t: t, f: newFleet(t, m, v, cs...), r: newRouter(t, m, v, cs...), Asker: s.Asker(w.Config)}
}

// someone: most often a live request's number, else that of one that is over, or just none.
func (p *play) someone() int {
	if live := p.lives(); len(live) > 0 && p.Below(6) > 0 {
		return live[p.Below(len(live))]
	}
	return p.Below(len(p.f.rows)+3) - 1
}

// parkedOne: a parked request's number, if there is one, else just someone's.
func (p *play) parkedOne() int {
	var all []int
	for id, r := range p.f.rows {
		if r.at == parked {
			all = append(all, id+1)
		}
	}
	if len(all) == 0 {
		return p.someone()
	}
	return all[p.Below(len(all))]
}

// somewhere: an engine's number, or just none.
func (p *play) somewhere() int {
	if p.Below(12) == 0 {
		return []int{-1, len(p.f.up), math.MinInt, math.MaxInt}[p.Below(4)]
	}
	return p.Below(len(p.f.up))
}

func (p *play) submit() {
	p.t.Helper()
	a := p.Ask()
	if p.Below(12) == 0 {
		a.New = []int{0, -1, p.Long}[p.Below(3)]
	}
	want, wrong := p.f.submit(a)
	if id, e := p.r.Submit(a); id != want || e != wrong {
		p.t.Fatalf("P27.2: %+v: %d, %d, want %d, %d", a, id, e, want, wrong)
	}
}

func (p *play) move(id, to int) {
	p.t.Helper()
	want := p.f.move(id, to)
	if e := p.r.Move(id, to); e != want {
		p.t.Fatalf("P27.4: Move(%d, %d): %d, want %d", id, to, e, want)
	}
}

func (p *play) cancel(id int) {
	p.t.Helper()
	want := p.f.cancel(id)
	if e := p.r.Cancel(id); e != want {
		p.t.Fatalf("P27.7: Cancel(%d): %d, want %d", id, e, want)
	}
}

func (p *play) lose(i int) {
	p.t.Helper()
	want := p.f.lose(i)
	if e := p.r.Lose(i); e != want {
		p.t.Fatalf("P27.5: Lose(%d): %d, want %d", i, e, want)
	}
	if want == api.OK {
		p.fullIfParked("P27.5")
	}
}

func (p *play) join(i int) {
	p.t.Helper()
	want := p.f.join(i)
	if e := p.r.Join(i); e != want {
		p.t.Fatalf("P27.6: Join(%d): %d, want %d", i, e, want)
	}
	if want == api.OK {
		p.fullIfParked("P27.6")
	}
}

// fullIfParked: what follows: no request is parked while an engine has room.
func (p *play) fullIfParked(what string) {
	p.t.Helper()
	at := map[int]int{}
	for id := range p.f.rows {
		if n, e := p.r.Where(id + 1); e == api.OK {
			at[n]++
		}
	}
	for i, g := range p.f.up {
		if g != nil && at[-1] > 0 && at[i] < api.MaxLive {
			p.t.Fatalf("%s: %d are parked, engine %d has %d", what, at[-1], i, at[i])
		}
	}
}

// picks: some of the live ones, in any order, with numbers twice and numbers of nobody.
func (p *play) picks() []int {
	var out []int
	rare := p.Below(4)
	for id := range p.f.rows {
		if p.f.isLive(id+1) && p.Below(4) >= rare {
			out = append(out, id+1)
		}
	}
	if p.Below(4) == 0 {
		out = append(out, p.someone(), p.someone(), -1, math.MinInt, math.MaxInt)
	}
	for i := range out {
		k := p.Below(len(out))
		out[i], out[k] = out[k], out[i]
	}
	return out
}

func (p *play) step(picks ...int) {
	p.t.Helper()
	want, is := p.f.step(picks...), p.r.Step(picks...)
	if !slices.EqualFunc(is, want, testaid.SameReport) {
		p.t.Fatalf("P27.8: Step(%v) = %+v, want %+v", picks, is, want)
	}
}

// makeRoom: someone goes from an engine while others are parked; what comes next may place one of those.
func (p *play) makeRoom() {
	p.t.Helper()
	i := p.f.next()
	at := slices.IndexFunc(p.f.rows, func(r *row) bool { return r.at == i })
	if i < 0 || at < 0 || len(p.f.parkedOnes()) == 0 {
		return
	}
	p.cancel(at + 1)
	switch p.Below(4) {
	case 0:
		p.move(p.parkedOne(), i)
	case 1:
		// Another one, if there is one.
		p.lose(slices.IndexFunc(p.f.up, func(g *engine.Engine) bool { return g != nil && g != p.f.up[i] }))
	case 2:
		p.submit()
	default:
		p.step(p.picks()...)
	}
}

// act: one thing of a script.
func (p *play) act() {
	p.t.Helper()
	switch n := p.Below(40); {
	case n < 6:
		p.submit()
	case n == 6:
		for range p.Below(20) {
			p.submit()
		}
	case n < 11:
		p.move(p.someone(), p.somewhere())
	case n == 11:
		p.move(p.parkedOne(), p.somewhere())
	case n < 14:
		p.cancel(p.someone())
	case n == 14:
		p.cancel(p.parkedOne())
	case n < 17:
		p.lose(p.somewhere())
	case n < 20:
		p.join(p.somewhere())
	case n < 23:
		p.makeRoom()
	default:
		p.step(p.picks()...)
	}
	p.f.agree("behind each call", p.r)
	p.isRef()
}

// isRef: W12: what is told is a first part of Ref, never becomes less, and is told as Done just if it is all of Ref.
func (p *play) isRef() {
	p.t.Helper()
	for i, row := range p.f.rows {
		s, e := p.r.Poll(i + 1)
		n := len(s.Tokens)
		if e != api.OK || n > len(row.ref) || !slices.Equal(s.Tokens, row.ref[:n]) || s.Status != api.Cancelled && (s.Status == api.Done) != (n == len(row.ref)) {
			p.t.Fatalf("W12: request %d of %+v: %v, %d, want %v", i+1, row.ask, s, e, row.ref)
		}
		if i == len(p.told) {
			p.told = append(p.told, 0)
		}
		if n < p.told[i] {
			p.t.Fatalf("W12: request %d was told %d tokens, and now %d", i+1, p.told[i], n)
		}
		p.told[i] = n
	}
}

// lives: the numbers of those that are not over.
func (p *play) lives() []int {
	var out []int
	for id := range p.f.rows {
		if p.f.isLive(id + 1) {
			out = append(out, id+1)
		}
	}
	return out
}

// end: with all engines up everybody who is not cancelled comes to Ref.
func (p *play) end() {
	p.t.Helper()
	for i, g := range p.f.up {
		if g == nil {
			p.join(i)
		}
	}
	for n := 0; len(p.lives()) > 0; n++ {
		if n > 5000 {
			p.t.Fatalf("W12: no end: %v", p.lives())
		}
		p.step(p.lives()...)
	}
	p.f.agree("at the end", p.r)
	p.isRef()
}

// crowd: so many requests that not all engines can have them, or nearly so.
func (p *play) crowd() {
	p.t.Helper()
	for range api.MaxLive*len(p.f.up) - p.Below(10) {
		p.submit()
	}
	p.lose(p.Below(len(p.f.up)))
	for range 3 {
		p.makeRoom()
	}
}

// Drawn scripts of all calls, over drawn models and up to five engines of unlike measures: whatever is told is what the words say (P27.2 to P27.8, W12).
func TestScripts(t *testing.T) {
	s := testaid.Source(27)
	var seen counts
	for i := range 200 {
		p := newPlay(t, &s, 5)
		for n := range 100 {
			if i%2 == 0 && n%20 == 9 {
				p.crowd()
			}
			p.act()
		}
		p.end()
		seen.add(p.f.seen)
	}
	if seen.least() < 20 {
		t.Errorf("the scripts tell too little: %+v", seen)
	}
}

// The same over up to sixteen engines, all of which come to be lost.
func TestManyEngines(t *testing.T) {
	s := testaid.Source(2716)
	for range 8 {
		p := newPlay(t, &s, api.MaxLive)
		for range 60 {
			p.act()
		}
		for i := range p.f.up {
			if p.f.up[i] != nil {
				p.lose(i)
			}
			p.f.agree("behind each loss", p.r)
		}
		p.submit()
		p.step(p.lives()...)
		p.end()
	}
}
