package sched_test

import (
	"math"
	"slices"
	"testing"

	"augur/api"
	"augur/sched"
	"augur/testaid"
)

// The sixth example.
func TestErrorExamples(t *testing.T) {
	makesNot(t, four(), []api.Seat{seat(1, 2, 0, 1), seat(1, 3, 0, 1)}, []int{1}, api.ErrArg)
	makesNot(t, four(), []api.Seat{seat(1, 3, 3, 1, 0, 1)}, []int{1}, api.ErrArg)
	makesNot(t, four(), []api.Seat{seat(1, 3, 0, 1, 4)}, []int{1}, api.ErrArg)
	makesNot(t, measures(4, 2, 6, 7, 4), []api.Seat{seat(1, 3, 0, 1)}, []int{1}, api.ErrServe)
}

// Of wrong measures and wrong seats the measures are told.
func TestMeasuresComeFirst(t *testing.T) {
	for _, c := range []api.Serve{{}, measures(0, 2, 6, 3, 4), measures(257, 2, 6, 3, 4), measures(4, 0, 6, 3, 4), measures(4, 17, 6, 3, 4), measures(4, 2, 2, 3, 4), measures(4, 2, 1025, 3, 4), measures(4, 2, 6, 0, 4), measures(4, 2, 6, 3, 0), measures(4, 2, 6, 3, 33), measures(math.MaxInt, math.MaxInt, 6, 3, 4), measures(math.MinInt, math.MinInt, math.MinInt, math.MinInt, math.MinInt)} {
		makesNot(t, c, nil, nil, api.ErrServe)
		makesNot(t, c, []api.Seat{seat(1, 2, 0, 1)}, []int{1}, api.ErrServe)
		makesNot(t, c, []api.Seat{seat(1, 0, 0, 1)}, []int{1}, api.ErrServe)
		makesNot(t, c, make([]api.Seat, 17), []int{1}, api.ErrServe)
	}
}

// Make asks for a pool of one token alone: a seat may know more than the pool holds.
func TestPoolOfOneToken(t *testing.T) {
	one := measures(1, 1, 1, 1, 1)
	makes(t, one, []api.Seat{seat(1, 64, 0, 1)}, []int{1}, nil, fill(1, 1))
	makes(t, one, []api.Seat{seat(1, 64, 1, 1, 0)}, []int{1}, nil)
	makes(t, one, []api.Seat{seat(1, 1, 0, 1)}, []int{1}, nil, decode(1, 1))
}

// Each bound of a seat is met, and missed by one, picked or not.
func TestSeatsAtTheBounds(t *testing.T) {
	for _, c := range []struct{ inside, outside api.Seat }{
		{seat(1, 1, 0, 1), seat(1, 0, 0, 1)},
		{seat(1, 1, 0, 1), seat(1, 0, -1, 1)},
		{seat(1, 64, 0, 1), seat(1, 65, 0, 1)},
		{seat(1, 3, 0, 1), seat(1, 3, -1, 1)},
		{seat(1, 3, 2, 1, 0), seat(1, 3, 3, 1, 0, 1)},
		{seat(1, 1, 0, 1, 0), seat(1, 1, 1, 1, 0)},
		{seat(1, 3, 0, 1, 3), seat(1, 3, 0, 1, 4)},
		{seat(1, 3, 0, 1, 0), seat(1, 3, 0, 1, -1)},
		{seat(1, 3, 0, 1, 2, 1), seat(1, 3, 0, 1, 2, 2)},
		{seat(1, 3, 0, 1, 2, 1, 0), seat(1, 3, 0, 1, 2, 1, 2)},
		{seat(1, 9, 8, 1, 3, 1, 0, 2), seat(1, 9, 8, 1, 3, 1, 0)},
		{seat(1, 9, 7, 1, 3, 1, 0, 2), seat(1, 9, 7, 1, 3, 1, 0)},
		{seat(1, 9, 6, 1, 3, 1, 0), seat(1, 9, 6, 1, 3, 1)},
		{seat(1, 9, 1, 1, 3), seat(1, 9, 1, 1)},
		{seat(1, 9, 8, 1, 3, 1, 0, 2), seat(1, 10, 9, 1, 3, 1, 0, 2)},
		{seat(1, 9, 8, 1, 0, 1, 2, 3), seat(1, 10, 9, 1, 0, 1, 2, 3, 4)},
		{seat(1, 9, 8, 1, 0, 1, 2, 3), seat(1, 9, 8, 1, 0, 1, 2, 3, 0)},
	} {
		for _, picks := range [][]int{nil, {1}, {7}} {
			for _, others := range [][]api.Seat{nil, {seat(0, 2, 1, 1, 1)}, {seat(2, 2, 1, 1, 1)}, {seat(0, 2, 1, 1, 1), seat(2, 2, 1, 1, 1)}} {
				if !mayBeSeat(four(), c.inside) || mayBeSeat(four(), c.outside) {
					t.Fatalf("%v, %v are no bound", c.inside, c.outside)
				}
				for at := 0; at <= len(others); at++ {
					makesAsWords(t, four(), slices.Insert(slices.Clone(others), at, c.inside), picks)
					makesNot(t, four(), slices.Insert(slices.Clone(others), at, c.outside), picks, api.ErrArg)
				}
			}
		}
	}
}

// What a block number may be hangs on Blocks, up to the greatest there are.
func TestBlockNumbers(t *testing.T) {
	for _, blocks := range []int{1, 2, 3, 255, 256} {
		c := measures(blocks, 1, 6, 3, 4)
		makes(t, c, []api.Seat{seat(1, 2, 1, 1, blocks-1)}, []int{2}, nil)
		for _, b := range []int{blocks, blocks + 1, -1, math.MinInt, math.MaxInt, 1 << 32} {
			makesNot(t, c, []api.Seat{seat(1, 2, 1, 1, b)}, nil, api.ErrArg)
		}
	}
	var all []int
	for b := range 256 {
		all = append(all, 255-b)
	}
	full := measures(256, 16, 1024, 1024, 32)
	makes(t, full, []api.Seat{seat(1, 64, 63, 32, all...)}, []int{1}, nil, decode(1, 32))
	makesNot(t, full, []api.Seat{seat(1, 64, 63, 32, append(all, 0)...)}, []int{1}, api.ErrArg)
}

// No two of one Id, wherever they stand, whatever the Id, alike or not.
func TestAlikeIds(t *testing.T) {
	for _, id := range []int{math.MinInt, -1, 0, 1, 5, math.MaxInt} {
		makesNot(t, four(), []api.Seat{seat(id, 2, 0, 1), seat(id, 2, 0, 1)}, nil, api.ErrArg)
		makesNot(t, four(), []api.Seat{seat(id, 2, 0, 1), seat(3, 2, 0, 1), seat(id, 5, 2, 4, 0)}, []int{id}, api.ErrArg)
		makesNot(t, four(), []api.Seat{seat(id, 2, 0, 1), seat(3, 2, 0, 1), seat(4, 2, 0, 1), seat(9, 2, 0, 1), seat(id, 5, 2, 4, 0)}, []int{3}, api.ErrArg)
	}
}

// Ids are any numbers: a lower one is older, however far apart they are.
func TestFarIds(t *testing.T) {
	ids := []int{math.MinInt, math.MinInt + 1, -7, -1, 0, 1, 1 << 40, math.MaxInt - 1, math.MaxInt}
	s := testaid.Source(300)
	for range 50 {
		var seats []api.Seat
		var want []api.Slice
		for _, id := range ids {
			seats = append(seats, seat(id, 3, 0, 1))
			want = append(want, fill(id, 2))
		}
		c := measures(32, 2, 18, 3, 4)
		makes(t, c, mixed(&s, seats), mixed(&s, ids), nil, want...)
		c.Budget = 3
		makes(t, c, mixed(&s, seats), mixed(&s, ids), nil, want[0], fill(ids[1], 1))
	}
	makes(t, four(), []api.Seat{seat(math.MaxInt, 8, 7, 1, 0, 1, 2, 3), seat(math.MinInt, 5, 0, 1)}, []int{math.MinInt}, []int{math.MaxInt}, fill(math.MinInt, 3))
	makes(t, four(), []api.Seat{seat(math.MinInt, 8, 7, 1, 0, 1, 2, 3), seat(math.MaxInt, 5, 0, 1)}, []int{math.MaxInt}, nil)
}

// Sixteen seats may be, seventeen not.
func TestMostSeats(t *testing.T) {
	var seats []api.Seat
	var want []api.Slice
	var picks []int
	for id := range 17 {
		seats = append(seats, seat(id, 2, 0, 1))
		want = append(want, fill(id, 1))
		picks = append(picks, id)
	}
	c := measures(16, 1, 16, 3, 4)
	makes(t, c, seats[:16], picks, nil, want[:16]...)
	makesNot(t, c, seats, picks, api.ErrArg)
	makesNot(t, c, seats, nil, api.ErrArg)
}

// Lists far above their bounds, and picks, which have none.
func TestLongLists(t *testing.T) {
	const long = 1 << 20
	makesNot(t, four(), make([]api.Seat, long), nil, api.ErrArg)
	makesNot(t, four(), []api.Seat{seat(1, 2, 0, 1, make([]int, long)...)}, nil, api.ErrArg)
	rising := make([]int, long)
	for i := range rising {
		rising[i] = i
	}
	makesNot(t, four(), []api.Seat{seat(1, 2, 0, 1, rising...)}, nil, api.ErrArg)
	makes(t, four(), []api.Seat{seat(long-1, 2, 0, 1), seat(long, 2, 0, 1)}, rising, nil, fill(long-1, 1))
	makes(t, four(), []api.Seat{seat(0, 2, 0, 1), seat(1, 2, 0, 1)}, make([]int, long), nil, fill(0, 1))
}

// Nothing to plan: no seats, no picks, picks of nobody.
func TestNothingToPlan(t *testing.T) {
	makes(t, four(), nil, nil, nil)
	makes(t, four(), []api.Seat{}, []int{}, nil)
	makes(t, four(), nil, []int{0, 1, 2}, nil)
	makes(t, four(), []api.Seat{seat(1, 5, 0, 1)}, nil, nil)
	makes(t, four(), []api.Seat{seat(1, 5, 0, 1)}, []int{0, 2, -1, math.MaxInt, math.MinInt}, nil)
}

// spoil changes one number of the seats, or one of their blocks, so that they perhaps may not be.
func spoil(s *testaid.Source, seats []api.Seat) {
	x := &seats[s.Below(len(seats))]
	numbers := anyNumbers()
	far := numbers[s.Below(len(numbers))]
	switch s.Below(7) {
	case 0:
		x.Known = far
	case 1:
		x.Cached = far
	case 2:
		x.Id = seats[0].Id
	case 3:
		x.Cached += s.Below(3) - 1
	case 4:
		x.Held = append(slices.Clone(x.Held), s.Below(8))
	case 5:
		x.Held = append(slices.Clone(x.Held), far)
	default:
		x.Held = slices.Clone(x.Held[:len(x.Held)/2])
	}
}

// Drawn seats with something changed: refused just where the words refuse them.
func TestSpoiltSeats(t *testing.T) {
	s := testaid.Source(301)
	right, wrong := 0, 0
	for range 20000 {
		c := someMeasures(&s)
		seats := append(someSeats(&s, c, 5), someSeat(&s, c, 90))
		spoil(&s, seats)
		if _, ok := makesAsWords(t, c, seats, somePicks(&s, seats)); ok {
			right++
		} else {
			wrong++
		}
	}
	if right < 3000 || wrong < 3000 {
		t.Errorf("of the spoilt seats %d may be and %d not", right, wrong)
	}
}

// Drawn measures, right and wrong: refused just where Check refuses them for texts of one token.
func TestMakeAsksCheck(t *testing.T) {
	s := testaid.Source(302)
	numbers := anyNumbers()
	for range 20000 {
		c := someMeasures(&s)
		seats := someSeats(&s, c, 4)
		fields := []*int{&c.Blocks, &c.Block, &c.Budget, &c.Chunk, &c.Tree}
		*fields[s.Below(5)] = numbers[s.Below(len(numbers))]
		makesAsWords(t, c, seats, somePicks(&s, seats))
		if _, e := sched.Make(c, nil, nil); e != sched.Check(c, 1) {
			t.Fatalf("P19.2: Make(%v, none) answers %d, Check %d", c, e, sched.Check(c, 1))
		}
	}
}

// Want may be any number.
func TestAnyWant(t *testing.T) {
	for _, want := range anyNumbers() {
		nodes := min(max(want, 1), 4)
		makes(t, measures(8, 2, 6, 3, 4), []api.Seat{seat(1, 6, 5, want, 0, 1, 2)}, []int{1}, nil, decode(1, nodes))
		makes(t, measures(8, 2, 6, 3, 4), []api.Seat{seat(1, 6, 2, want, 0)}, []int{1}, nil, fill(1, 3))
	}
}
