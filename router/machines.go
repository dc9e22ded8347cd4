package router

import (
	"cmp"
	"slices"
	"sync"

	"augur/api"
)

// Lose: an engine is lost, with all that it had; its requests go to others.
func (r *Router) Lose(engine int) api.Errno {
	m, e := r.machine(engine)
	if e != api.OK {
		return e
	}
	if !m.isUp() {
		return api.ErrLost
	}
	r.parked = append(r.parked, m.stop()...)
	slices.SortFunc(r.parked, func(a, b *request) int { return cmp.Compare(a.number, b.number) })
	r.takeUp()
	return api.OK
}

// Join: a lost engine is back, empty.
func (r *Router) Join(engine int) api.Errno {
	m, e := r.machine(engine)
	if e != api.OK {
		return e
	}
	if m.isUp() {
		return api.ErrArg
	}
	if e := m.start(r.model, r.vocab); e != api.OK {
		return e
	}
	r.takeUp()
	return api.OK
}

// Step: a step of every engine, for the picked requests.
func (r *Router) Step(picks ...int) []api.Report {
	if r == nil {
		return nil
	}
	r.takeUp()
	reports := make([]api.Report, len(r.machines))
	var steps sync.WaitGroup
	for i, m := range r.machines {
		if !m.isUp() {
			continue
		}
		steps.Add(1)
		go func() {
			defer steps.Done()
			reports[i] = m.step(picks)
		}()
	}
	steps.Wait()
	return reports
}

// machine: an engine by its number, up or lost.
func (r *Router) machine(number int) (*machine, api.Errno) {
	if r == nil || number < 0 || number >= len(r.machines) {
		return nil, api.ErrArg
	}
	return r.machines[number], api.OK
}

// next: where the next request goes; nil, if no engine is up.
func (r *Router) next() *machine {
	var best *machine
	for _, m := range r.machines {
		if m.isUp() && (best == nil || m.load() < best.load()) {
			best = m
		}
	}
	return best
}

// takeUp: parked requests go to engines, as long as one has room.
func (r *Router) takeUp() {
	for len(r.parked) > 0 {
		to := r.next()
		// What was accepted once is refused only where there is no room.
		if to == nil || to.take(r.parked[0]) != api.OK {
			return
		}
		r.parked = slices.Delete(r.parked, 0, 1)
	}
}
