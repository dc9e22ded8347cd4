package router

import (
	"slices"
	"testing"

	"augur/api"
	"augur/model"
	"augur/testaid"
)

// What is kept of requests cannot be seen from without: so these tests look inside.

func newTiny(t *testing.T, engines int) *Router {
	t.Helper()
	m, e := model.New(testaid.Tiny())
	if e != api.OK {
		t.Fatalf("no model: %d", e)
	}
	r, e := New(m, testaid.TinyVocab(), slices.Repeat([]api.Serve{testaid.TinyServe}, engines)...)
	if e != api.OK {
		t.Fatalf("no router: %d", e)
	}
	return r
}

// keeps: an engine has just so many requests, all of which tell that they are at it, and others are parked.
func keeps(t *testing.T, r *Router, what string, parked int, at ...int) {
	t.Helper()
	for i, m := range r.machines {
		if len(m.requests) != at[i] {
			t.Fatalf("%s: engine %d keeps %d requests, want %d", what, i, len(m.requests), at[i])
		}
		for inner, q := range m.requests {
			if q.at != m || q.inner != inner {
				t.Fatalf("%s: engine %d keeps request %d as its number %d", what, i, q.number, inner)
			}
		}
	}
	if len(r.parked) != parked || slices.ContainsFunc(r.parked, func(q *request) bool { return q.at != nil || isOver(q.status) }) {
		t.Fatalf("%s: %d are parked, want %d", what, len(r.parked), parked)
	}
	// Nor are others kept behind the list's end.
	for _, q := range r.parked[len(r.parked):cap(r.parked)] {
		if q != nil && q.at == nil && isOver(q.status) {
			t.Fatalf("%s: request %d is kept behind the parked ones", what, q.number)
		}
	}
}

// Of requests that went elsewhere, or were cancelled, an engine keeps nothing; of a lost engine nothing is kept.
func TestWhatEnginesKeep(t *testing.T) {
	r := newTiny(t, 2)
	ask := api.Ask{Prompt: []int{1}, New: 1, Params: testaid.Greedy}
	for range 3 {
		r.Submit(ask)
	}
	keeps(t, r, "behind Submit", 0, 2, 1)
	for i := range 101 {
		r.Move(1, 1-i%2)
	}
	keeps(t, r, "behind 101 moves", 0, 1, 2)
	r.Cancel(2)
	keeps(t, r, "behind Cancel", 0, 1, 1)
	r.Step(1)
	keeps(t, r, "behind a request's end", 0, 1, 1)
	r.Lose(1)
	keeps(t, r, "behind Lose(1)", 0, 1, 0)
	r.Lose(0)
	keeps(t, r, "behind Lose(0)", 1, 0, 0)
	for i, m := range r.machines {
		if m.engine != nil {
			t.Errorf("engine %d is kept", i)
		}
	}
	r.Cancel(3)
	keeps(t, r, "behind a parked one's Cancel", 0, 0, 0)
	for id := 4; id < 100; id++ {
		r.Join(0)
		r.Submit(ask)
		keeps(t, r, "behind Submit", 0, 1, 0)
		r.Lose(0)
		keeps(t, r, "behind Lose", 1, 0, 0)
		r.Cancel(id)
		keeps(t, r, "behind Cancel", 0, 0, 0)
	}
}

// Parked ones are kept in rising order of their numbers, and go out of the list as they are taken up.
func TestParkedInOrder(t *testing.T) {
	r := newTiny(t, 3)
	for range 48 {
		r.Submit(api.Ask{Prompt: []int{1}, New: 2, Params: testaid.Greedy})
	}
	for i, lost := range []int{2, 0, 1} {
		r.Lose(lost)
		if !slices.IsSortedFunc(r.parked, func(a, b *request) int { return a.number - b.number }) || len(r.parked) != 16*(i+1) {
			t.Fatalf("behind %d losses %d are parked, or in no order", i+1, len(r.parked))
		}
	}
	r.Cancel(20)
	r.Join(1)
	keeps(t, r, "behind Join(1)", 31, 0, 16, 0)
	r.Join(2)
	keeps(t, r, "behind Join(2)", 15, 0, 16, 16)
	r.Cancel(1)
	r.Move(48, 1)
	keeps(t, r, "behind a parked one's Move", 14, 0, 16, 16)
	r.Cancel(2)
	r.Step()
	keeps(t, r, "behind Step", 13, 0, 16, 16)
}
