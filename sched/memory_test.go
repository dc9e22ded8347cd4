package sched_test

import (
	"slices"
	"testing"

	"augur/api"
	"augur/sched"
	"augur/testaid"
)

var (
	seatMark  = api.Seat{Id: 77, Known: 78, Cached: 79, Want: 80}
	sliceMark = api.Slice{Id: 77, Prefill: 78, Nodes: 79}
)

// handed: all that Make is handed, each list with spare room.
type handed struct {
	c     api.Serve
	seats []api.Seat
	picks []int
}

// someHanded: drawn ones that may be, of a pool that is short of blocks.
func someHanded(s *testaid.Source) handed {
	h := handed{c: someMeasures(s)}
	h.seats = testaid.Roomy(mixed(s, someSeats(s, h.c, 16)), seatMark)
	for i := range h.seats {
		h.seats[i].Held = testaid.Roomy(h.seats[i].Held, 77)
	}
	h.picks = testaid.Roomy(somePicks(s, h.seats), 77)
	return h
}

// sameSeats: alike, and over the same memory.
func sameSeats(a, b []api.Seat) bool {
	return slices.EqualFunc(a, b, func(a, b api.Seat) bool {
		sameList := len(a.Held) == len(b.Held) && (len(a.Held) == 0 || &a.Held[0] == &b.Held[0])
		return a.Id == b.Id && a.Known == b.Known && a.Cached == b.Cached && a.Want == b.Want && sameList
	})
}

// guard: the answered function tells whether all that is handed in is as it was, and the room behind it.
func (h handed) guard(t *testing.T) func() {
	full := h.seats[:cap(h.seats)]
	was := slices.Clone(full)
	kept := []func() bool{testaid.Guard(h.picks)}
	for _, x := range h.seats {
		kept = append(kept, testaid.Guard(x.Held))
	}
	return func() {
		t.Helper()
		if !sameSeats(full, was) {
			t.Fatalf("P19.5: the seats were changed, or the room behind them: %v, before %v", full, was)
		}
		for i, is := range kept {
			if !is() {
				t.Fatalf("P19.5: number %d of picks and the seats' Held was changed, or the room behind it", i)
			}
		}
	}
}

func (h handed) make() api.Plan {
	p, _ := sched.Make(h.c, h.seats, h.picks)
	return p
}

func clonePlan(p api.Plan) api.Plan {
	return api.Plan{Out: slices.Clone(p.Out), Slices: slices.Clone(p.Slices)}
}

func overwritePlan(p api.Plan) {
	_, _ = append(p.Out, 99), append(p.Slices, sliceMark)
	testaid.Overwrite(p.Out, 99)
	testaid.Overwrite(p.Slices, sliceMark)
}

// What is handed in stays, in its order, and the room behind it; in a call that is refused too.
func TestArgumentsStay(t *testing.T) {
	s := testaid.Source(330)
	for range 3000 {
		h := someHanded(&s)
		check := h.guard(t)
		makesAsWords(t, h.c, h.seats, h.picks)
		check()
		wrong := testaid.Roomy(append(slices.Clone(h.seats), seat(99, 0, 0, 1)), seatMark)
		refused := handed{h.c, wrong, h.picks}
		check = refused.guard(t)
		makesNot(t, h.c, wrong, h.picks, api.ErrArg)
		makesNot(t, measures(0, 0, 0, 0, 0), wrong, h.picks, api.ErrServe)
		check()
	}
}

// What was handed in may be written over behind the call.
func TestNothingIsKept(t *testing.T) {
	s := testaid.Source(331)
	for range 3000 {
		h := someHanded(&s)
		got := h.make()
		want := clonePlan(got)
		for _, x := range h.seats {
			testaid.Overwrite(x.Held, 99)
		}
		testaid.Overwrite(h.seats, seatMark)
		testaid.Overwrite(h.picks, 99)
		if !samePlan(got, want) {
			t.Fatalf("P19.5: the plan changed with what was handed in: %v, not %v", got, want)
		}
		other := someHanded(&s)
		makesAsWords(t, other.c, other.seats, other.picks)
	}
}

// A plan written into or appended to changes no other plan, no later one, and nothing that was handed in.
func TestPlansAreApart(t *testing.T) {
	s := testaid.Source(332)
	for range 3000 {
		h := someHanded(&s)
		once, again := h.make(), h.make()
		want, check := clonePlan(again), h.guard(t)
		overwritePlan(once)
		if !samePlan(again, want) {
			t.Fatalf("P19.5: writing over one plan changed another: %v, not %v", again, want)
		}
		check()
		makesAsWords(t, h.c, h.seats, h.picks)
	}
}

// Several seats may be handed the same list of blocks, and picks the same memory too.
func TestOneListForSeveral(t *testing.T) {
	list := testaid.Roomy([]int{3, 1, 2}, 77)
	is := testaid.Guard(list)
	seats := []api.Seat{seat(3, 6, 5, 4), seat(1, 6, 5, 4), seat(2, 7, 6, 4)}
	for i := range seats {
		seats[i].Held = list
	}
	makes(t, four(), seats, list, nil, decode(1, 3), decode(3, 1))
	makes(t, four(), seats, list[:1], nil, decode(3, 3))
	makes(t, four(), seats, list[2:], nil, decode(2, 2))
	if !is() {
		t.Error("P19.5: a list that was handed in for several was changed")
	}
}

// A list's own elements are all that is looked at: those behind its end are not.
func TestRoomIsNotLookedAt(t *testing.T) {
	seats := []api.Seat{seat(1, 7, 6, 4, 0, 1, 2), seat(2, 3, 2, 4, 3), seat(1, 0, 9, 9)}
	picks := []int{1, 2}
	makesNot(t, four(), seats, picks, api.ErrArg)
	makes(t, four(), seats[:2], picks, []int{2}, decode(1, 2))
	makes(t, four(), seats[:1], picks, nil, decode(1, 2))
	makes(t, four(), seats[:2], picks[:0], nil)
	makes(t, four(), seats[:2], picks[1:], nil)
	held := []int{0, 1, 2, 2, 99}
	makes(t, four(), []api.Seat{seat(1, 7, 6, 1, held[:3]...)}, picks, nil, decode(1, 1))
	makesNot(t, four(), []api.Seat{seat(1, 7, 6, 1, held[:4]...)}, picks, api.ErrArg)
	makesNot(t, four(), []api.Seat{seat(1, 7, 6, 1, held[:2]...)}, picks, api.ErrArg)
}

// What was asked before is not seen.
func TestOrderOfCallsIsNotSeen(t *testing.T) {
	s := testaid.Source(333)
	for range 1000 {
		h, other := someHanded(&s), someHanded(&s)
		first := h.make()
		other.make()
		makesNot(t, h.c, make([]api.Seat, 17), h.picks, api.ErrArg)
		sched.Check(other.c, 5)
		if again := h.make(); !samePlan(first, again) {
			t.Fatalf("R6: Make(%v, %v, %v) = %v, and before it was %v", h.c, h.seats, h.picks, again, first)
		}
	}
}

// Nil lists and empty ones are the same.
func TestNilAndEmpty(t *testing.T) {
	empty := seat(1, 4, 0, 2)
	empty.Held = []int{}
	makes(t, four(), []api.Seat{empty}, []int{1}, nil, fill(1, 3))
	empty.Held = nil
	makes(t, four(), []api.Seat{empty}, []int{1}, nil, fill(1, 3))
	makes(t, four(), []api.Seat{}, nil, nil)
	makes(t, four(), nil, []int{}, nil)
}
