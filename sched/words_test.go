package sched_test

import (
	"math"
	"slices"
	"testing"

	"augur/api"
	"augur/sched"
	"augur/testaid"
)

// The chapter's words, said a second time: sets as maps, blocks and nodes counted one at a time, each number F found anew.

// measures: Blocks, Block, Budget, Chunk, Tree, in the order of the chapter's examples.
func measures(blocks, block, budget, chunk, tree int) api.Serve {
	return api.Serve{Blocks: blocks, Block: block, Budget: budget, Chunk: chunk, Tree: tree}
}

// four: the measures of the chapter's examples.
func four() api.Serve { return measures(4, 2, 6, 3, 4) }

// seat: Id, Known, Cached, Want; Held, in the order of the chapter's examples.
func seat(id, known, cached, want int, held ...int) api.Seat {
	return api.Seat{Id: id, Known: known, Cached: cached, Want: want, Held: held}
}

func fill(id, n int) api.Slice   { return api.Slice{Id: id, Prefill: n} }
func decode(id, n int) api.Slice { return api.Slice{Id: id, Nodes: n} }

// mayServe: bound by bound.
func mayServe(c api.Serve, long int) bool {
	for _, x := range [][3]int{{1, long, 64}, {1, c.Blocks, 256}, {1, c.Block, 16}, {1, c.Chunk, 1024}, {1, c.Budget, 1024}, {1, c.Tree, 32}} {
		if x[1] < x[0] || x[1] > x[2] {
			return false
		}
	}
	return c.Blocks*c.Block >= long && c.Budget >= c.Chunk
}

// blocksFor: so many positions, of so many to a block.
func blocksFor(positions, block int) int {
	blocks := 0
	for blocks*block < positions {
		blocks++
	}
	return blocks
}

// mayBeSeat: one seat, the others aside.
func mayBeSeat(c api.Serve, s api.Seat) bool {
	if s.Known < 1 || s.Known > 64 || s.Cached < 0 || s.Cached >= s.Known {
		return false
	}
	held := map[int]bool{}
	for _, b := range s.Held {
		if b < 0 || b >= c.Blocks || held[b] {
			return false
		}
		held[b] = true
	}
	return len(held) >= blocksFor(s.Cached, c.Block)
}

// mayBeSeats: all of them.
func mayBeSeats(c api.Serve, seats []api.Seat) bool {
	ids := map[int]bool{}
	for _, s := range seats {
		if ids[s.Id] || !mayBeSeat(c, s) {
			return false
		}
		ids[s.Id] = true
	}
	return len(seats) <= 16
}

// scene: what a plan is made of, and how far it is made.
type scene struct {
	c     api.Serve
	seats []api.Seat
	out   map[int]bool // by Id
	given map[int]int  // by Id: blocks
	left  int          // L
	plan  api.Plan
}

// freeIf: F, if those were out beside the ones that are.
func (w *scene) freeIf(more ...int) int {
	held := map[int]bool{}
	for _, s := range w.seats {
		if w.out[s.Id] || slices.Contains(more, s.Id) {
			continue
		}
		for _, b := range s.Held {
			held[b] = true
		}
	}
	free := w.c.Blocks - len(held)
	for _, n := range w.given {
		free -= n
	}
	return free
}

// lacks: how many blocks a seat needs for so many more positions, beyond its Held.
func (w *scene) lacks(s api.Seat, more int) int {
	return max(0, blocksFor(s.Cached+more, w.c.Block)-len(s.Held))
}

// younger: those that hold blocks and are not out, the youngest first.
func (w *scene) younger(s api.Seat) []int {
	var ids []int
	for _, other := range w.seats {
		if other.Id > s.Id && len(other.Held) > 0 && !w.out[other.Id] {
			ids = append(ids, other.Id)
		}
	}
	slices.Sort(ids)
	slices.Reverse(ids)
	return ids
}

// look: the four points of P19.3.
func (w *scene) look(s api.Seat) {
	rest := s.Known - 1 - s.Cached
	a := min(max(s.Want, 1), w.c.Tree, w.left)
	least := 1
	if rest > 0 {
		a = min(rest, w.c.Chunk, w.left)
		least = a
	}
	if w.freeIf() < w.lacks(s, least) {
		if w.freeIf(w.younger(s)...) < w.lacks(s, least) {
			return
		}
		for w.freeIf() < w.lacks(s, least) {
			youngest := w.younger(s)[0]
			w.out[youngest] = true
			w.plan.Out = append(w.plan.Out, youngest)
		}
	}
	if rest > 0 {
		w.plan.Slices = append(w.plan.Slices, fill(s.Id, a))
	} else {
		for w.freeIf() < w.lacks(s, a) {
			a--
		}
		w.plan.Slices = append(w.plan.Slices, decode(s.Id, a))
	}
	w.left -= a
	w.given[s.Id] = w.lacks(s, a)
}

// planned: what Make is to answer, if there is no error.
func planned(c api.Serve, seats []api.Seat, picks []int) api.Plan {
	w := &scene{c: c, seats: seats, out: map[int]bool{}, given: map[int]int{}, left: c.Budget}
	ids := slices.Clone(picks)
	slices.Sort(ids)
	for _, id := range slices.Compact(ids) {
		for _, s := range seats {
			if s.Id == id && !w.out[id] && w.left > 0 {
				w.look(s)
			}
		}
	}
	return w.plan
}

// samePlan: alike, of lists the nil and the empty one too.
func samePlan(a, b api.Plan) bool {
	return slices.Equal(a.Out, b.Out) && slices.Equal(a.Slices, b.Slices)
}

// makes: Make answers just this.
func makes(t *testing.T, c api.Serve, seats []api.Seat, picks []int, out []int, served ...api.Slice) {
	t.Helper()
	want := api.Plan{Out: out, Slices: served}
	if p, e := sched.Make(c, seats, picks); e != api.OK || !samePlan(p, want) {
		t.Errorf("P19.3: Make(%v, %v, %v) = %v, %d, want %v", c, seats, picks, p, e, want)
	}
}

// makesNot: Make answers this error, and nothing beside it.
func makesNot(t *testing.T, c api.Serve, seats []api.Seat, picks []int, want api.Errno) {
	t.Helper()
	if p, e := sched.Make(c, seats, picks); e != want || len(p.Out)+len(p.Slices) > 0 {
		t.Errorf("P19.2: Make of %v, %d seats, %d picks = %v, %d, want the error %d", c, len(seats), len(picks), p, e, want)
	}
}

// makesAsWords: Make answers what the second writing says; was it a plan?
func makesAsWords(t *testing.T, c api.Serve, seats []api.Seat, picks []int) (api.Plan, bool) {
	t.Helper()
	switch {
	case !mayServe(c, 1):
		makesNot(t, c, seats, picks, api.ErrServe)
		return api.Plan{}, false
	case !mayBeSeats(c, seats):
		makesNot(t, c, seats, picks, api.ErrArg)
		return api.Plan{}, false
	}
	want := planned(c, seats, picks)
	p, e := sched.Make(c, seats, picks)
	if e != api.OK || !samePlan(p, want) {
		t.Fatalf("P19.3: Make(%v, %v, %v) = %v, %d, want %v", c, seats, picks, p, e, want)
	}
	return p, true
}

// anyNumbers: those around the bounds, and far ones, of which the low bits alone would be right too.
func anyNumbers() []int {
	return []int{math.MinInt, math.MinInt + 1, math.MinInt32, -1, 0, 1, 2, 15, 16, 17, 31, 32, 33, 63, 64, 65, 255, 256, 257, 1023, 1024, 1025, 1<<32 + 4, 1<<62 + 2, math.MaxInt - 1, math.MaxInt}
}

// someMeasures: small ones, so that blocks and budget are short often.
func someMeasures(s *testaid.Source) api.Serve {
	c := measures(1+s.Below(12), 1+s.Below(4), 1+s.Below(24), 1, 1+s.Below(8))
	c.Chunk = 1 + s.Below(min(c.Budget, 6))
	return c
}

// someBlocks: so many different ones of a pool; at times its first ones, as those have who begin alike.
func someBlocks(s *testaid.Source, n, blocks int) []int {
	all := make([]int, blocks)
	for i := range all {
		all[i] = i
	}
	if s.Below(3) == 0 {
		return all[:n]
	}
	for i := range n {
		j := i + s.Below(blocks-i)
		all[i], all[j] = all[j], all[i]
	}
	return all[:n]
}

// someSeat: one that may be.
func someSeat(s *testaid.Source, c api.Serve, id int) api.Seat {
	x := seat(id, 1+s.Below(min(64, c.Blocks*c.Block+2)), 0, s.Below(12)-2)
	most := min(x.Known-1, c.Blocks*c.Block)
	switch s.Below(3) {
	case 0:
		x.Cached = most
	case 1:
		x.Cached = s.Below(most + 1)
	default:
		x.Cached = min(most, s.Below(2*c.Block+1))
	}
	n := blocksFor(x.Cached, c.Block)
	if s.Below(4) == 0 {
		n = min(c.Blocks, n+s.Below(3))
	}
	x.Held = someBlocks(s, n, c.Blocks)
	return x
}

// someSeats: up to so many that may be together, in any order.
func someSeats(s *testaid.Source, c api.Serve, most int) []api.Seat {
	var seats []api.Seat
	ids := map[int]bool{}
	for range s.Below(most + 1) {
		id := s.Below(40) - 5
		if !ids[id] {
			ids[id] = true
			seats = append(seats, someSeat(s, c, id))
		}
	}
	return seats
}

// somePicks: of some seats, some numbers twice and some that are nobody's among them.
func somePicks(s *testaid.Source, seats []api.Seat) []int {
	var picks []int
	all := s.Below(2) == 0
	for _, x := range seats {
		if all || s.Below(2) == 0 {
			picks = append(picks, x.Id)
		}
	}
	for range s.Below(3) {
		picks = append(picks, s.Below(60)-10)
	}
	return mixed(s, picks)
}

// mixed: the same in another order.
func mixed[T any](s *testaid.Source, list []T) []T {
	out := slices.Clone(list)
	for i := range out {
		j := i + s.Below(len(out)-i)
		out[i], out[j] = out[j], out[i]
	}
	return out
}
