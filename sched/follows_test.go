package sched_test

import (
	"slices"
	"testing"

	"augur/api"
	"augur/sched"
	"augur/testaid"
)

// used: all Prefill and Nodes together.
func used(p api.Plan) int {
	n := 0
	for _, x := range p.Slices {
		n += x.Prefill + x.Nodes
	}
	return n
}

// byId: the seats by their numbers.
func byId(seats []api.Seat) map[int]api.Seat {
	all := map[int]api.Seat{}
	for _, s := range seats {
		all[s.Id] = s
	}
	return all
}

// eachDrawn calls the function with many drawn measures, seats, picks, and what Make answers of them.
func eachDrawn(t *testing.T, seed uint64, times int, see func(c api.Serve, seats []api.Seat, picks []int, p api.Plan)) {
	t.Helper()
	s := testaid.Source(seed)
	for range times {
		c := someMeasures(&s)
		seats := someSeats(&s, c, 1+s.Below(16))
		picks := somePicks(&s, seats)
		p, e := sched.Make(c, seats, picks)
		if e != api.OK {
			t.Fatalf("P19.2: Make(%v, %v, %v) answers %d", c, seats, picks, e)
		}
		see(c, seats, picks, p)
	}
}

// Nothing is exceeded, and each slice is of one kind: that of its seat.
func TestNothingIsExceeded(t *testing.T) {
	eachDrawn(t, 310, 20000, func(c api.Serve, seats []api.Seat, picks []int, p api.Plan) {
		all := byId(seats)
		if used(p) > c.Budget {
			t.Fatalf("what follows: %v, %v, %v: %v uses %d", c, seats, picks, p, used(p))
		}
		for _, x := range p.Slices {
			s, is := all[x.Id]
			rest := s.Known - 1 - s.Cached
			right := x.Nodes == 0 && 1 <= x.Prefill && x.Prefill <= min(rest, c.Chunk)
			if rest == 0 {
				right = x.Prefill == 0 && 1 <= x.Nodes && x.Nodes <= min(c.Tree, max(s.Want, 1))
			}
			if !is || !right || !slices.Contains(picks, x.Id) {
				t.Fatalf("what follows: %v, %v, %v: the slice %v", c, seats, picks, x)
			}
		}
	})
}

// Slices rise with their Ids, and nobody is told twice, or both served and out.
func TestEachIsToldOnce(t *testing.T) {
	eachDrawn(t, 311, 20000, func(c api.Serve, seats []api.Seat, picks []int, p api.Plan) {
		told := map[int]bool{}
		for i, x := range p.Slices {
			if i > 0 && x.Id <= p.Slices[i-1].Id || told[x.Id] {
				t.Fatalf("P19.4: %v, %v, %v: %v", c, seats, picks, p)
			}
			told[x.Id] = true
		}
		for i, id := range p.Out {
			if told[id] || i > 0 && id >= p.Out[i-1] {
				t.Fatalf("P19.4: %v, %v, %v: %v", c, seats, picks, p)
			}
			told[id] = true
		}
	})
}

// Who is out is younger than somebody who is served, and holds blocks; the oldest of all is never out.
func TestWhoIsOut(t *testing.T) {
	eachDrawn(t, 312, 20000, func(c api.Serve, seats []api.Seat, picks []int, p api.Plan) {
		all := byId(seats)
		for _, id := range p.Out {
			if s, is := all[id]; !is || len(s.Held) == 0 || len(p.Slices) == 0 || id < p.Slices[0].Id {
				t.Fatalf("what follows: %v, %v, %v: %v", c, seats, picks, p)
			}
			if !slices.ContainsFunc(seats, func(s api.Seat) bool { return s.Id < id }) {
				t.Fatalf("what follows: %v, %v, %v: the oldest is out: %v", c, seats, picks, p)
			}
		}
	})
}

// The oldest of all, if it is picked and the pool holds what it knows, is served: all its wish if it fills, one node at least if it decodes.
func TestTheOldestIsServed(t *testing.T) {
	times := 0
	eachDrawn(t, 313, 40000, func(c api.Serve, seats []api.Seat, picks []int, p api.Plan) {
		if len(seats) == 0 {
			return
		}
		oldest := slices.MinFunc(seats, func(a, b api.Seat) int { return a.Id - b.Id })
		if !slices.Contains(picks, oldest.Id) || c.Blocks*c.Block < oldest.Known {
			return
		}
		times++
		if len(p.Slices) == 0 || p.Slices[0].Id != oldest.Id {
			t.Fatalf("what follows: %v, %v, %v: %v", c, seats, picks, p)
		}
		first, rest := p.Slices[0], oldest.Known-1-oldest.Cached
		if rest > 0 && first.Prefill != min(rest, c.Chunk) || rest == 0 && first.Nodes < 1 {
			t.Fatalf("what follows: %v, %v, %v: the oldest does %v", c, seats, picks, first)
		}
	})
	if times < 10000 {
		t.Errorf("the oldest was picked only %d times", times)
	}
}

// The blocks that are held by those who are not out, and those that are given, are at most Blocks.
func TestBlocksAreEnough(t *testing.T) {
	full := 0
	eachDrawn(t, 314, 20000, func(c api.Serve, seats []api.Seat, picks []int, p api.Plan) {
		held := map[int]bool{}
		for _, s := range seats {
			for _, b := range s.Held {
				if !slices.Contains(p.Out, s.Id) {
					held[b] = true
				}
			}
		}
		all, n := byId(seats), len(held)
		for _, x := range p.Slices {
			s := all[x.Id]
			n += max(0, blocksFor(s.Cached+x.Prefill+x.Nodes, c.Block)-len(s.Held))
		}
		if n > c.Blocks {
			t.Fatalf("what follows: %v, %v, %v: %v needs %d blocks", c, seats, picks, p, n)
		}
		if n == c.Blocks {
			full++
		}
	})
	if full < 1000 {
		t.Errorf("only %d plans need all blocks", full)
	}
}

// Where there is room and budget for what all picked ones want all get it, and nobody is out.
func TestAllGetWhatTheyWant(t *testing.T) {
	times := 0
	s := testaid.Source(315)
	for range 20000 {
		c := someMeasures(&s)
		c.Blocks, c.Budget = 12+s.Below(60), 30+s.Below(200)
		seats := someSeats(&s, c, 8)
		picks := somePicks(&s, seats)
		var want []api.Slice
		blocks, held, budget := 0, map[int]bool{}, 0
		for _, x := range seats {
			for _, b := range x.Held {
				held[b] = true
			}
			if !slices.Contains(picks, x.Id) {
				continue
			}
			slice := decode(x.Id, min(max(x.Want, 1), c.Tree))
			if rest := x.Known - 1 - x.Cached; rest > 0 {
				slice = fill(x.Id, min(rest, c.Chunk))
			}
			n := slice.Prefill + slice.Nodes
			budget += n
			blocks += max(0, blocksFor(x.Cached+n, c.Block)-len(x.Held))
			want = append(want, slice)
		}
		if blocks+len(held) > c.Blocks || budget > c.Budget {
			continue
		}
		times++
		slices.SortFunc(want, func(a, b api.Slice) int { return a.Id - b.Id })
		makes(t, c, seats, picks, nil, want...)
	}
	if times < 2000 {
		t.Errorf("there was room for all only %d times", times)
	}
}

// The order of seats, picks and blocks changes nothing, nor do picks said twice and numbers that are no seat's.
func TestOrderChangesNothing(t *testing.T) {
	s := testaid.Source(316)
	eachDrawn(t, 317, 10000, func(c api.Serve, seats []api.Seat, picks []int, p api.Plan) {
		others := mixed(&s, seats)
		for i := range others {
			others[i].Held = mixed(&s, others[i].Held)
		}
		more := append(mixed(&s, picks), picks...)
		for range 3 {
			if id := s.Below(200) - 100; !slices.ContainsFunc(seats, func(x api.Seat) bool { return x.Id == id }) {
				more = append(more, id)
			}
		}
		if q, e := sched.Make(c, others, mixed(&s, more)); e != api.OK || !samePlan(p, q) {
			t.Fatalf("what follows: %v, %v, %v: %v, and in another order %v, %d", c, seats, picks, p, q, e)
		}
	})
}

// Which blocks are held means nothing, but for which are the same.
func TestNamesOfBlocksMeanNothing(t *testing.T) {
	s := testaid.Source(318)
	eachDrawn(t, 319, 10000, func(c api.Serve, seats []api.Seat, picks []int, p api.Plan) {
		names := someBlocks(&s, c.Blocks, c.Blocks)
		others := slices.Clone(seats)
		for i, x := range others {
			others[i].Held = nil
			for _, b := range x.Held {
				others[i].Held = append(others[i].Held, names[b])
			}
		}
		makes(t, c, others, picks, p.Out, p.Slices...)
	})
}

// Those who are not picked get nothing, but the blocks that they hold count, and they may lose them.
func TestThoseWhoAreNotPicked(t *testing.T) {
	s := testaid.Source(320)
	times := 0
	eachDrawn(t, 321, 10000, func(c api.Serve, seats []api.Seat, picks []int, p api.Plan) {
		others := slices.Clone(seats)
		for i := range others {
			if !slices.Contains(picks, others[i].Id) {
				times++
				others[i].Known = others[i].Cached + 1 + s.Below(64-others[i].Cached)
				others[i].Want = s.Below(99)
			}
		}
		makes(t, c, others, picks, p.Out, p.Slices...)
	})
	if times < 3000 {
		t.Errorf("only %d were not picked", times)
	}
}

// guest: a request as an engine would seat it, of which the tokens are only counted.
type guest struct {
	seat api.Seat
	left int // tokens that are to be answered yet
}

// house: guests over one pool, each block of which is in one hand.
type house struct {
	c      api.Serve
	guests []*guest
	free   []int
}

// newHouse: guests with prompts and wishes that the measures may have.
func newHouse(s *testaid.Source, c api.Serve, n, long int) *house {
	h := &house{c: c}
	for b := range c.Blocks {
		h.free = append(h.free, b)
	}
	for id := range n {
		known := 1 + s.Below(long-1)
		h.guests = append(h.guests, &guest{seat: seat(id+1, known, 0, 1+s.Below(8)), left: 1 + s.Below(long-known)})
	}
	return h
}

// letGo: the guest's blocks are nobody's.
func (h *house) letGo(g *guest) {
	h.free = append(h.free, g.seat.Held...)
	g.seat.Held, g.seat.Cached = nil, 0
}

// keep: the guest has just the blocks that its cached tokens and so many more need.
func (h *house) keep(t *testing.T, g *guest, more int) {
	need := blocksFor(g.seat.Cached+more, h.c.Block)
	for len(g.seat.Held) < need {
		if len(h.free) == 0 {
			t.Fatalf("W10: the plan gives a block that there is not: %v, %v", h.c, g.seat)
		}
		g.seat.Held = append(g.seat.Held, h.free[0])
		h.free = h.free[1:]
	}
	h.free = append(h.free, g.seat.Held[need:]...)
	g.seat.Held = slices.Clone(g.seat.Held[:need])
}

// live: the guests that are not over, the oldest first.
func (h *house) live() []*guest {
	var out []*guest
	for _, g := range h.guests {
		if g.left > 0 {
			out = append(out, g)
		}
	}
	return out
}

// step does a plan; of a tree's nodes so many come true as are drawn.
func (h *house) step(t *testing.T, s *testaid.Source, picks []int) {
	live := h.live()
	var seats []api.Seat
	for _, g := range live {
		seats = append(seats, g.seat)
	}
	p, e := sched.Make(h.c, mixed(s, seats), picks)
	if e != api.OK {
		t.Fatalf("P19.2: Make(%v, %v, %v) answers %d", h.c, seats, picks, e)
	}
	for _, id := range p.Out {
		if id == live[0].seat.Id {
			t.Fatalf("W5: the oldest lost its blocks: %v, %v, %v", h.c, seats, picks)
		}
		h.letGo(h.guests[id-1])
	}
	for _, x := range p.Slices {
		h.keep(t, h.guests[x.Id-1], x.Prefill+x.Nodes)
	}
	for _, x := range p.Slices {
		g := h.guests[x.Id-1]
		g.seat.Cached += x.Prefill
		if x.Nodes > 0 {
			n := min(1+s.Below(x.Nodes), g.left)
			g.seat.Cached += n
			g.seat.Known += n
			g.left -= n
		}
		h.keep(t, g, 0)
		if g.left == 0 {
			h.letGo(g)
		}
	}
}

// Everybody comes to an end, within as many steps as W5 says, over the smallest pools too.
func TestEverybodyComesToAnEnd(t *testing.T) {
	s := testaid.Source(322)
	for range 300 {
		long := 2 + s.Below(20)
		c := someMeasures(&s)
		c.Blocks = blocksFor(long, c.Block) + s.Below(4)
		h := newHouse(&s, c, 1+s.Below(16), long)
		most, window := 0, 1+s.Below(3)
		for _, g := range h.guests {
			most += window * (blocksFor(g.seat.Known+g.left, c.Chunk) + g.left)
		}
		for i := range most {
			var picks []int
			for _, g := range h.live() {
				if g.seat.Id%window == i%window || s.Below(4) == 0 {
					picks = append(picks, g.seat.Id)
				}
			}
			h.step(t, &s, picks)
		}
		if live := h.live(); len(live) > 0 || len(h.free) != c.Blocks {
			t.Fatalf("W5: %v: behind %d steps %d guests are live, %d blocks free", c, most, len(live), len(h.free))
		}
	}
}
