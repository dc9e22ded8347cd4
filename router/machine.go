package router

import (
	"slices"

	"augur/api"
	"augur/engine"
	"augur/model"
)

// machine: an engine of a router, up or lost.
type machine struct {
	measures api.Serve
	engine   *engine.Engine // nil: it is lost
	// requests: those that are at it, and those that came to be Done at it, by the engine's numbers.
	requests map[int]*request
}

// start: it is up, over a new engine.
func (m *machine) start(of *model.Model, v api.Vocab) api.Errno {
	g, e := engine.New(of, v, m.measures)
	if e != api.OK {
		return e
	}
	m.engine, m.requests = g, map[int]*request{}
	return api.OK
}

// stop: it is lost; what was told of its requests stays with them. Those that are not over are answered.
func (m *machine) stop() []*request {
	var live []*request
	for _, q := range m.requests {
		q.leave()
		if !isOver(q.status) {
			live = append(live, q)
		}
	}
	m.engine, m.requests = nil, nil
	return live
}

func (m *machine) isUp() bool { return m.engine != nil }

// load: how many live requests one that is up has.
func (m *machine) load() int { return len(m.engine.Live()) }

func (m *machine) hasRoom() bool { return m.load() < api.MaxLive }

// take: a request that is at no engine is at this one, if its engine accepts it.
func (m *machine) take(q *request) api.Errno {
	inner, e := m.engine.Submit(q.ask)
	if e != api.OK {
		return e
	}
	m.requests[inner] = q
	q.at, q.inner = m, inner
	return api.OK
}

// release: a live request goes away from here.
func (m *machine) release(q *request) {
	// Behind the engine's Cancel other things would be told of it.
	q.leave()
	m.engine.Cancel(q.inner)
	delete(m.requests, q.inner)
}

// step: the engine's, for those of the picks that are here, told with the router's numbers.
func (m *machine) step(picks []int) api.Report {
	var inner []int
	for _, id := range m.engine.Live() {
		if slices.Contains(picks, m.requests[id].number) {
			inner = append(inner, id)
		}
	}
	report := m.engine.Step(inner...)
	for i, did := range report.Did {
		report.Did[i].Id = m.requests[did.Id].number
	}
	for i, id := range report.Out {
		report.Out[i] = m.requests[id].number
	}
	return report
}
