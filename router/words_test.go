package router_test

import (
	"slices"
	"testing"

	"augur/api"
	"augur/engine"
	"augur/model"
	"augur/router"
	"augur/testaid"
)

// The chapter's words said a second time: as whatever is told of a request is a first part of its Ref, of each one only the greatest number of tokens is kept that was told ever.

// Where a request is that is at no engine.
const (
	parked = -1
	over   = -2
)

// row: a request as the words tell it.
type row struct {
	ask    api.Ask
	ref    []int
	at     int // the engine, or one of the two above
	inner  int // its number there
	told   int // so many tokens
	status int
	again  bool // was it begun again?
}

// fleet: a router as the words tell it, over engines of its own.
type fleet struct {
	t    *testing.T
	m    *model.Model
	v    api.Vocab
	cs   []api.Serve
	up   []*engine.Engine // nil: lost
	rows []*row           // the first is number 1
	seen counts
}

// counts: how often what a test wants to see came about.
type counts struct {
	lost, many, refused                          int // Submits
	moved, back, placed, same, full              int // Moves: to another engine, begun again there with tokens told before, of a parked one, to where it is, to a full one
	cancels, lateCancels, parkedCancels          int // the second with fewer tokens at the engine than told
	keptDone, keptCancelled, spread, left, lates int // Loses: requests of the engine that are over, that go elsewhere, that go nowhere, that were begun again and are behind what was told
	filled, waited, stepped                      int // taken up: in a Join, in a Lose of another engine than theirs, in a Step
	out, unordered, again, more, ended           int // Steps: tables lost; reports in which the numbers do not rise; tokens told before; more tokens than before; ends of such as were begun again
}

func (c *counts) all() []*int {
	return []*int{&c.lost, &c.many, &c.refused, &c.moved, &c.back, &c.placed, &c.same, &c.full, &c.cancels, &c.lateCancels, &c.parkedCancels, &c.keptDone, &c.keptCancelled, &c.spread, &c.left, &c.lates, &c.filled, &c.waited, &c.stepped, &c.out, &c.unordered, &c.again, &c.more, &c.ended}
}

func (c *counts) add(o counts) {
	for i, n := range o.all() {
		*c.all()[i] += *n
	}
}

func (c *counts) least() int {
	least := *c.all()[0]
	for _, n := range c.all() {
		least = min(least, *n)
	}
	return least
}

func newFleet(t *testing.T, m *model.Model, v api.Vocab, cs ...api.Serve) *fleet {
	t.Helper()
	f := &fleet{t: t, m: m, v: v, cs: slices.Clone(cs), up: make([]*engine.Engine, len(cs))}
	for i := range cs {
		f.start(i)
	}
	return f
}

func (f *fleet) start(i int) {
	f.t.Helper()
	g, e := engine.New(f.m, f.v, f.cs[i])
	if e != api.OK {
		f.t.Fatalf("no engine: %d", e)
	}
	f.up[i] = g
}

// next: the next engine; -1, if none is up.
func (f *fleet) next() int {
	for load := range api.MaxLive + 1 {
		for i, g := range f.up {
			if g != nil && len(g.Live()) == load {
				return i
			}
		}
	}
	return -1
}

func (f *fleet) room(i int) bool { return f.up[i] != nil && len(f.up[i].Live()) < api.MaxLive }

// put: a request that is at no engine goes to one that has room.
func (f *fleet) put(r *row, i int) {
	f.t.Helper()
	inner, e := f.up[i].Submit(r.ask)
	if e != api.OK {
		f.t.Fatalf("engine %d refuses what another one accepted: %d", i, e)
	}
	r.at, r.inner, r.status, r.again = i, inner, api.Waiting, true
}

// takeUp: how many were.
func (f *fleet) takeUp() int {
	f.t.Helper()
	n := 0
	for _, r := range f.rows {
		if i := f.next(); r.at == parked && i >= 0 && f.room(i) {
			f.put(r, i)
			n++
		}
	}
	return n
}

func (f *fleet) is(id int) bool { return id >= 1 && id <= len(f.rows) }

func (f *fleet) isLive(id int) bool { return f.is(id) && f.rows[id-1].at != over }

func (f *fleet) submit(a api.Ask) (int, api.Errno) {
	f.t.Helper()
	i := f.next()
	if i < 0 {
		f.seen.lost++
		return 0, api.ErrLost
	}
	a.Prompt = slices.Clone(a.Prompt)
	inner, e := f.up[i].Submit(a)
	switch e {
	case api.OK:
	case api.ErrMany:
		f.seen.many++
		return 0, e
	default:
		f.seen.refused++
		return 0, e
	}
	ref, e := testaid.Ref(f.m, f.v, a)
	if e != api.OK {
		f.t.Fatalf("no Ref of %+v: %d", a, e)
	}
	f.rows = append(f.rows, &row{ask: a, ref: ref, at: i, inner: inner, status: api.Waiting})
	return len(f.rows), api.OK
}

// behind: has its engine answered fewer tokens than were told?
func (f *fleet) behind(r *row) bool {
	s, _ := f.up[r.at].Poll(r.inner)
	return len(s.Tokens) < r.told
}

func (f *fleet) where(id int) (int, api.Errno) {
	if !f.isLive(id) {
		return 0, api.ErrRequest
	}
	return f.rows[id-1].at, api.OK
}

func (f *fleet) poll(id int) (api.State, api.Errno) {
	if !f.is(id) {
		return api.State{}, api.ErrRequest
	}
	r := f.rows[id-1]
	return api.State{Status: r.status, Tokens: r.ref[:r.told]}, api.OK
}

func (f *fleet) move(id, to int) api.Errno {
	f.t.Helper()
	switch {
	case !f.isLive(id):
		return api.ErrRequest
	case to < 0 || to >= len(f.up):
		return api.ErrArg
	case f.up[to] == nil:
		return api.ErrLost
	}
	r := f.rows[id-1]
	switch {
	case r.at == to:
		f.seen.same++
		return api.OK
	case !f.room(to):
		f.seen.full++
		return api.ErrMany
	case r.at == parked:
		f.seen.placed++
	default:
		f.up[r.at].Cancel(r.inner)
		f.seen.moved++
		if r.told > 0 {
			f.seen.back++
		}
	}
	f.put(r, to)
	return api.OK
}

func (f *fleet) lose(i int) api.Errno {
	f.t.Helper()
	switch {
	case i < 0 || i >= len(f.up):
		return api.ErrArg
	case f.up[i] == nil:
		return api.ErrLost
	}
	was := f.parkedOnes()
	for _, r := range f.rows {
		if r.at != i {
			continue
		}
		if f.behind(r) {
			f.seen.lates++
		}
		r.at, r.status = parked, api.Waiting
	}
	f.countOver(i)
	f.up[i] = nil
	f.seen.spread += f.takeUp()
	f.seen.left += len(f.parkedOnes())
	for _, r := range was {
		if r.at != parked {
			f.seen.waited++
		}
	}
	return api.OK
}

// countOver: how many requests that are over an engine has.
func (f *fleet) countOver(i int) {
	live := f.up[i].Live()
	for inner := 1; ; inner++ {
		s, e := f.up[i].Poll(inner)
		switch {
		case e != api.OK:
			return
		case slices.Contains(live, inner):
		case s.Status == api.Done:
			f.seen.keptDone++
		default:
			f.seen.keptCancelled++
		}
	}
}

func (f *fleet) parkedOnes() []*row {
	return slices.DeleteFunc(slices.Clone(f.rows), func(r *row) bool { return r.at != parked })
}

func (f *fleet) join(i int) api.Errno {
	f.t.Helper()
	if i < 0 || i >= len(f.up) || f.up[i] != nil {
		return api.ErrArg
	}
	f.start(i)
	f.seen.filled += f.takeUp()
	return api.OK
}

func (f *fleet) cancel(id int) api.Errno {
	if !f.isLive(id) {
		return api.ErrRequest
	}
	r := f.rows[id-1]
	switch {
	case r.at == parked:
		f.seen.parkedCancels++
	case f.behind(r):
		f.seen.lateCancels++
		f.up[r.at].Cancel(r.inner)
	default:
		f.seen.cancels++
		f.up[r.at].Cancel(r.inner)
	}
	r.at, r.status = over, api.Cancelled
	return api.OK
}

func (f *fleet) step(picks ...int) []api.Report {
	f.t.Helper()
	f.seen.stepped += f.takeUp()
	var all []api.Report
	for i, g := range f.up {
		if g == nil {
			all = append(all, api.Report{})
			continue
		}
		all = append(all, f.stepOf(i, g, picks))
	}
	return all
}

// stepOf: an engine's step, and what its requests are told by it.
func (f *fleet) stepOf(i int, g *engine.Engine, picks []int) api.Report {
	f.t.Helper()
	outer := map[int]int{}
	var inner []int
	for n, r := range f.rows {
		if r.at != i {
			continue
		}
		outer[r.inner] = n + 1
		if slices.Contains(picks, n+1) {
			inner = append(inner, r.inner)
		}
	}
	report := g.Step(inner...)
	for k := range report.Did {
		report.Did[k].Id = outer[report.Did[k].Id]
	}
	for k := range report.Out {
		report.Out[k] = outer[report.Out[k]]
	}
	if !slices.IsSortedFunc(report.Did, func(a, b api.Did) int { return a.Id - b.Id }) {
		f.seen.unordered++
	}
	f.seen.out += len(report.Out)
	for _, id := range outer {
		f.hears(f.rows[id-1])
	}
	return report
}

// hears: what the request's engine tells, it is told, unless it was told more before.
func (f *fleet) hears(r *row) {
	f.t.Helper()
	s, e := f.up[r.at].Poll(r.inner)
	if n := len(s.Tokens); e != api.OK || n > len(r.ref) || !slices.Equal(s.Tokens, r.ref[:n]) {
		f.t.Fatalf("W1: an engine tells %v of %+v, Ref is %v", s, r.ask, r.ref)
	}
	switch n := len(s.Tokens); {
	case n > 0 && n <= r.told:
		f.seen.again++
	case n > r.told && r.told > 0:
		f.seen.more++
	}
	r.told, r.status = max(r.told, len(s.Tokens)), s.Status
	if s.Status == api.Done {
		if r.again {
			f.seen.ended++
		}
		r.at = over
	}
}

// agree: whatever a router tells is what the words say.
func (f *fleet) agree(what string, r *router.Router) {
	f.t.Helper()
	for id := -1; id <= len(f.rows)+1; id++ {
		want, wrong := f.where(id)
		if n, e := r.Where(id); n != want || e != wrong {
			f.t.Fatalf("%s: Where(%d) = %d, %d, want %d, %d", what, id, n, e, want, wrong)
		}
		state, wrong := f.poll(id)
		if s, e := r.Poll(id); e != wrong || !testaid.SameState(s, state) {
			f.t.Fatalf("%s: Poll(%d) = %v, %d, want %v, %d", what, id, s, e, state, wrong)
		}
	}
}
