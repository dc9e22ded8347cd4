package sched_test

import (
	"testing"

	"augur/api"
	"augur/testaid"
)

func TestFirstExample(t *testing.T) {
	makes(t, four(), []api.Seat{seat(1, 6, 0, 1)}, []int{1}, nil, fill(1, 3))
	makes(t, four(), []api.Seat{seat(1, 6, 3, 1, 0, 1)}, []int{1}, nil, fill(1, 2))
	makes(t, four(), []api.Seat{seat(1, 6, 5, 9, 0, 1, 2)}, []int{1}, nil, decode(1, 3))
}

func TestSecondAndThirdExample(t *testing.T) {
	young := seat(2, 3, 2, 4, 3)
	makes(t, four(), []api.Seat{seat(1, 6, 5, 4, 0, 1, 2), young}, []int{1, 2}, nil, decode(1, 1))
	makes(t, four(), []api.Seat{seat(1, 7, 6, 4, 0, 1, 2), young}, []int{1, 2}, []int{2}, decode(1, 2))
}

func TestFourthExample(t *testing.T) {
	three := []api.Seat{seat(1, 5, 0, 1), seat(2, 5, 0, 1), seat(3, 5, 0, 1)}
	makes(t, measures(8, 2, 3, 3, 4), three, []int{1, 2, 3}, nil, fill(1, 3))
}

func TestFifthExample(t *testing.T) {
	two := []api.Seat{seat(2, 8, 7, 1, 0, 1, 2, 3), seat(1, 5, 0, 1)}
	makes(t, four(), two, []int{1}, []int{2}, fill(1, 3))
	makes(t, four(), two, []int{2}, nil, decode(2, 1))
}

// Who fills wants the least of its rest, Chunk and what is left.
func TestWhatFillingWants(t *testing.T) {
	wide := measures(64, 2, 7, 4, 8)
	for known, n := range []int{2: 1, 3: 2, 4: 3, 5: 4, 6: 4, 64: 4} {
		if n > 0 {
			makes(t, wide, []api.Seat{seat(1, known, 0, 8)}, []int{1}, nil, fill(1, n))
		}
	}
	three := []api.Seat{seat(1, 9, 0, 1), seat(2, 9, 0, 1), seat(3, 9, 0, 1)}
	for budget, want := range [][]int{4: {4}, 5: {4, 1}, 7: {4, 3}, 8: {4, 4}, 9: {4, 4, 1}, 12: {4, 4, 4}, 13: {4, 4, 4}} {
		wide.Budget = budget
		var served []api.Slice
		for i, n := range want {
			served = append(served, fill(i+1, n))
		}
		if len(want) > 0 {
			makes(t, wide, three, []int{1, 2, 3}, nil, served...)
		}
	}
}

// Who decodes wants the least of Want, Tree and what is left.
func TestWhatDecodingWants(t *testing.T) {
	wide := measures(64, 2, 7, 4, 5)
	for want, n := range []int{1, 1, 2, 3, 4, 5, 5, 5} {
		makes(t, wide, []api.Seat{seat(1, 3, 2, want, 9)}, []int{1}, nil, decode(1, n))
	}
	three := []api.Seat{seat(1, 1, 0, 3), seat(2, 1, 0, 3), seat(3, 1, 0, 3)}
	for budget, want := range [][]int{4: {3, 1}, 5: {3, 2}, 6: {3, 3}, 7: {3, 3, 1}, 9: {3, 3, 3}, 30: {3, 3, 3}} {
		wide.Budget = budget
		var served []api.Slice
		for i, n := range want {
			served = append(served, decode(i+1, n))
		}
		if len(want) > 0 {
			makes(t, wide, three, []int{1, 2, 3}, nil, served...)
		}
	}
}

// The last known token is the root: it is never filled, and who has all others cached decodes.
func TestFillsOrDecodes(t *testing.T) {
	c := measures(64, 1, 6, 3, 4)
	var held []int
	for cached := range 64 {
		for known := cached + 1; known <= 64; known++ {
			x := seat(1, known, cached, 2, held...)
			if known == cached+1 {
				makes(t, c, []api.Seat{x}, []int{1}, nil, decode(1, min(2, 64-cached)))
			} else {
				makes(t, c, []api.Seat{x}, []int{1}, nil, fill(1, min(3, known-1-cached)))
			}
		}
		held = append(held, cached)
	}
}

// Who fills takes all that it wants or nothing; who decodes takes what there is room for.
func TestFillingIsWholeDecodingIsCut(t *testing.T) {
	c := measures(4, 2, 9, 4, 8)
	old := seat(1, 5, 4, 1, 0, 1)
	makes(t, c, []api.Seat{old, seat(2, 5, 0, 8)}, []int{2}, nil, fill(2, 4))
	makes(t, c, []api.Seat{old, seat(2, 8, 2, 8, 3)}, []int{2}, nil)
	makes(t, c, []api.Seat{old, seat(2, 5, 2, 8, 3)}, []int{2}, nil, fill(2, 2))
	makes(t, c, []api.Seat{old, seat(2, 3, 2, 8, 3)}, []int{2}, nil, decode(2, 2))
	makes(t, c, []api.Seat{old, seat(2, 2, 1, 8, 3)}, []int{2}, nil, decode(2, 3))
	makes(t, c, []api.Seat{old, seat(2, 1, 0, 8)}, []int{2}, nil, decode(2, 4))
	makes(t, c, []api.Seat{old, seat(2, 4, 3, 8, 3, 2)}, []int{2}, nil, decode(2, 1))
	makes(t, c, []api.Seat{old, seat(2, 5, 4, 8, 3, 2)}, []int{2}, nil)
}

// What is left of the budget makes the wish less, and so the room that it needs.
func TestSmallWishNeedsLessRoom(t *testing.T) {
	seats := []api.Seat{seat(1, 9, 0, 1), seat(2, 9, 0, 1)}
	makes(t, measures(4, 1, 6, 3, 4), seats, []int{1, 2}, nil, fill(1, 3))
	makes(t, measures(4, 1, 5, 3, 4), seats, []int{1, 2}, nil, fill(1, 3))
	makes(t, measures(4, 1, 4, 3, 4), seats, []int{1, 2}, nil, fill(1, 3), fill(2, 1))
}

// Nobody is out for more than the least.
func TestNobodyIsOutForMoreThanTheLeast(t *testing.T) {
	makes(t, four(), []api.Seat{seat(1, 6, 5, 4, 0, 1, 2), seat(2, 3, 2, 4, 3)}, []int{1}, nil, decode(1, 1))
	makes(t, four(), []api.Seat{seat(1, 2, 1, 4, 0), seat(2, 6, 5, 4, 1, 2, 3)}, []int{1, 2}, nil, decode(1, 1), decode(2, 1))
}

// Who is out leaves all its blocks, and all of them are room for a tree.
func TestRoomOfThoseWhoAreOut(t *testing.T) {
	makes(t, four(), []api.Seat{seat(1, 3, 2, 9, 0), seat(2, 6, 5, 4, 1, 2, 3)}, []int{1, 2}, []int{2}, decode(1, 4))
	makes(t, measures(6, 2, 20, 3, 9), []api.Seat{seat(1, 3, 2, 9, 0), seat(2, 3, 2, 4, 1, 2), seat(3, 6, 5, 1, 3, 4, 5)}, []int{1, 2, 3}, []int{3}, decode(1, 6), decode(2, 2))
}

// The youngest goes first, picked or not, and no more than are needed.
func TestTheYoungestGoesFirst(t *testing.T) {
	seats := []api.Seat{seat(1, 20, 0, 1), seat(4, 4, 3, 1, 4, 5), seat(2, 3, 2, 1, 0), seat(3, 6, 5, 1, 1, 2, 3)}
	for chunk, out := range [][]int{1: {4}, 2: {4}, 3: {4}, 4: {4}, 5: {4, 3}, 6: {4, 3}, 9: {4, 3}, 10: {4, 3}, 11: {4, 3, 2}, 12: {4, 3, 2}} {
		if len(out) == 0 {
			continue
		}
		c := measures(6, 2, 20, chunk, 4)
		makes(t, c, seats, []int{1}, out, fill(1, chunk))
		makes(t, c, seats, []int{1, out[len(out)-1]}, out, fill(1, chunk))
	}
	makes(t, measures(6, 2, 20, 13, 4), seats, []int{1}, nil)
}

// Who holds no blocks is never out, and who is out is passed over.
func TestWhoHoldsNothingStays(t *testing.T) {
	c := measures(4, 2, 20, 3, 4)
	seats := []api.Seat{seat(1, 5, 0, 1), seat(2, 8, 7, 1, 0, 1, 2, 3), seat(3, 1, 0, 1), seat(4, 9, 0, 2)}
	makes(t, c, seats, []int{1, 2, 3}, []int{2}, fill(1, 3), decode(3, 1))
	makes(t, c, seats, []int{1, 2, 3, 4}, []int{2}, fill(1, 3), decode(3, 1))
	makes(t, c, seats, []int{2, 3, 4}, nil, decode(2, 1))
}

// A seat may hold blocks without a cached token: it is out as others are, and needs fewer.
func TestHeldAheadOfCached(t *testing.T) {
	c := measures(4, 2, 20, 8, 8)
	makes(t, c, []api.Seat{seat(1, 9, 0, 1, 0, 1, 2, 3)}, []int{1}, nil, fill(1, 8))
	makes(t, c, []api.Seat{seat(1, 1, 0, 8, 0, 1, 2, 3)}, []int{1}, nil, decode(1, 8))
	makes(t, c, []api.Seat{seat(1, 3, 2, 8, 0, 1, 2)}, []int{1}, nil, decode(1, 6))
	makes(t, c, []api.Seat{seat(1, 3, 0, 1), seat(2, 9, 0, 1, 0, 1, 2, 3)}, []int{1, 2}, []int{2}, fill(1, 2))
	// What one holds too much is no room for another.
	makes(t, c, []api.Seat{seat(1, 1, 0, 1, 0, 1, 2, 3), seat(2, 3, 0, 1)}, []int{1, 2}, nil, decode(1, 1))
	makes(t, c, []api.Seat{seat(1, 1, 0, 1, 0, 1, 2), seat(2, 3, 0, 1)}, []int{1, 2}, nil, decode(1, 1), fill(2, 2))
}

// Blocks that several hold count once, and are free when none of these is left.
func TestSharedBlocks(t *testing.T) {
	c := measures(4, 2, 20, 4, 8)
	makes(t, c, []api.Seat{seat(1, 5, 4, 8, 0, 1), seat(2, 5, 4, 8, 0, 1)}, []int{1}, nil, decode(1, 4))
	makes(t, c, []api.Seat{seat(1, 5, 4, 8, 0, 1), seat(2, 5, 4, 8, 0, 1)}, []int{2}, nil, decode(2, 4))
	makes(t, c, []api.Seat{seat(1, 5, 4, 2, 0, 1), seat(2, 5, 4, 8, 0, 1)}, []int{1, 2}, nil, decode(1, 2), decode(2, 2))
	// The youngest is out though that frees nothing: its block is another's too.
	shared := []api.Seat{seat(1, 3, 0, 1), seat(2, 7, 6, 1, 0, 1, 2), seat(3, 5, 4, 1, 2, 3), seat(4, 3, 2, 1, 2)}
	makes(t, c, shared, []int{1}, []int{4, 3}, fill(1, 2))
	makes(t, c, shared, []int{3}, nil)
	// Those who hold alike all have to go.
	alike := []api.Seat{seat(1, 5, 0, 1), seat(5, 9, 8, 1, 0, 1, 2, 3), seat(6, 9, 8, 1, 3, 2, 1, 0), seat(7, 9, 8, 1, 1, 0, 3, 2)}
	makes(t, c, alike, []int{1, 5, 6, 7}, []int{7, 6, 5}, fill(1, 4))
	makes(t, c, alike, []int{5, 6, 7}, nil)
	// What the seat itself and older ones hold does not become free.
	own := []api.Seat{seat(1, 5, 4, 1, 0, 1), seat(2, 7, 6, 1, 0, 1, 2), seat(3, 7, 6, 1, 0, 1, 3)}
	makes(t, c, own, []int{2}, []int{3}, decode(2, 1))
	makes(t, c, own, []int{1}, []int{3}, decode(1, 1))
	makes(t, c, own, []int{3}, nil)
	own[0].Held = []int{0, 1, 3}
	makes(t, c, own, []int{2}, nil)
	makes(t, c, own, []int{1, 2, 3}, nil, decode(1, 1))
}

// For whom there would be no room in any case nobody is out, and later ones are looked at all the same.
func TestNobodyIsOutInVain(t *testing.T) {
	c := measures(4, 2, 20, 5, 4)
	seats := []api.Seat{seat(1, 5, 4, 1, 0, 1), seat(2, 9, 0, 1), seat(3, 3, 2, 1, 2), seat(4, 2, 1, 3, 3)}
	makes(t, c, seats, []int{2}, nil)
	makes(t, c, seats, []int{2, 4}, nil, decode(4, 1))
	makes(t, c, seats, []int{2, 3, 4}, []int{4}, decode(3, 1))
	makes(t, c, seats, []int{1, 2, 3, 4}, []int{4}, decode(1, 1))
	seats[1].Known = 5
	makes(t, c, seats, []int{2}, []int{4, 3}, fill(2, 4))
}

// What earlier ones were given is not free for later ones, and these put out others still.
func TestGivenBlocks(t *testing.T) {
	c := measures(6, 2, 20, 4, 4)
	seats := []api.Seat{seat(1, 5, 0, 1), seat(2, 5, 0, 1), seat(3, 5, 0, 1), seat(8, 3, 2, 1, 0), seat(9, 3, 2, 1, 1)}
	makes(t, c, seats, []int{1}, nil, fill(1, 4))
	makes(t, c, seats, []int{1, 2}, nil, fill(1, 4), fill(2, 4))
	makes(t, c, seats, []int{1, 2, 3}, []int{9, 8}, fill(1, 4), fill(2, 4), fill(3, 4))
	makes(t, c, seats, []int{1, 2, 8}, []int{9}, fill(1, 4), fill(2, 4), decode(8, 1))
	makes(t, c, seats, []int{1, 2, 9}, nil, fill(1, 4), fill(2, 4))
	makes(t, c, seats, []int{1, 2, 3, 8, 9}, []int{9, 8}, fill(1, 4), fill(2, 4), fill(3, 4))
}

// Those who are out for the first are told ahead of those who are out for the second.
func TestOrderOfOut(t *testing.T) {
	c := measures(6, 1, 20, 2, 4)
	seats := []api.Seat{seat(1, 9, 0, 1), seat(2, 9, 0, 1), seat(3, 3, 2, 1, 0, 1), seat(4, 3, 2, 1, 2, 3), seat(5, 3, 2, 1, 4, 5)}
	makes(t, c, seats, []int{1}, []int{5}, fill(1, 2))
	makes(t, c, seats, []int{1, 2}, []int{5, 4}, fill(1, 2), fill(2, 2))
	makes(t, c, seats, []int{1, 2, 4, 5}, []int{5, 4}, fill(1, 2), fill(2, 2))
	makes(t, c, seats, []int{1, 2, 3}, []int{5, 4}, fill(1, 2), fill(2, 2))
	makes(t, c, seats, []int{2, 3, 4}, []int{5, 4}, fill(2, 2), decode(3, 1))
	makes(t, c, seats, []int{3, 4}, []int{5}, decode(3, 1), decode(4, 1))
	seats[2].Want = 2
	makes(t, c, seats, []int{3, 4}, []int{5}, decode(3, 2))
	makes(t, measures(6, 1, 20, 3, 4), seats, []int{1, 2}, []int{5, 4, 3}, fill(1, 3), fill(2, 3))
}

// Once the budget is used up nobody is looked at, and so nobody is out for them.
func TestNobodyIsOutBehindTheBudget(t *testing.T) {
	seats := []api.Seat{seat(1, 5, 2, 1, 0), seat(2, 9, 0, 1), seat(3, 7, 6, 1, 1, 2, 3)}
	makes(t, measures(5, 2, 3, 2, 4), seats, []int{1, 2}, []int{3}, fill(1, 2), fill(2, 1))
	makes(t, measures(5, 2, 2, 2, 4), seats, []int{1, 2}, nil, fill(1, 2))
}

// short: all lists of numbers for one seat of a pool of 3 blocks of 2 slots.
func short(id, mostKnown, want int) []api.Seat {
	var all []api.Seat
	for known := 1; known <= mostKnown; known++ {
		for cached := range known {
			for set := range 8 {
				x := seat(id, known, cached, want)
				for b := range 3 {
					if set>>b&1 == 1 {
						x.Held = append(x.Held, b)
					}
				}
				if 2*len(x.Held) >= cached {
					all = append(all, x)
				}
			}
		}
	}
	return all
}

// All pairs of short seats, and all picks of them.
func TestAllPairsOfShortSeats(t *testing.T) {
	for _, c := range []api.Serve{measures(3, 2, 4, 2, 3), measures(3, 2, 9, 3, 5), measures(3, 2, 1, 1, 1)} {
		for _, old := range short(1, 6, 3) {
			for _, young := range short(2, 5, 2) {
				for _, picks := range [][]int{{1}, {2}, {2, 1}} {
					makesAsWords(t, c, []api.Seat{young, old}, picks)
				}
			}
		}
	}
}

// All threes of still shorter ones.
func TestAllThreesOfShortSeats(t *testing.T) {
	c := measures(3, 2, 5, 2, 2)
	first, second, third := short(1, 3, 2), short(2, 3, 2), short(3, 2, 2)
	for _, a := range first {
		for _, b := range second {
			for _, d := range third {
				seats := []api.Seat{b, a, d}
				makesAsWords(t, c, seats, []int{3, 2, 1})
				makesAsWords(t, c, seats, []int{2})
			}
		}
	}
}

// Drawn seats, up to as many as there may be; of each kind of plan there are many.
func TestDrawnSeats(t *testing.T) {
	s := testaid.Source(303)
	var out, twoOut, unserved, fills, decodes, cut int
	for range 60000 {
		c := someMeasures(&s)
		seats := someSeats(&s, c, 1+s.Below(16))
		picks := somePicks(&s, seats)
		p, ok := makesAsWords(t, c, seats, picks)
		if !ok {
			t.Fatalf("%v, %v may not be", c, seats)
		}
		out += min(1, len(p.Out))
		twoOut += len(p.Out) / 2
		if len(p.Slices) == 0 && len(picks) > 2 {
			unserved++
		}
		for _, x := range p.Slices {
			fills += min(1, x.Prefill)
			decodes += min(1, x.Nodes)
		}
		if used(p) == c.Budget {
			cut++
		}
	}
	for what, n := range map[string]int{"who lose their blocks": out, "two or more of them": twoOut, "nobody served": unserved, "filling": fills, "decoding": decodes, "the budget used up": cut} {
		if n < 1000 {
			t.Errorf("of plans with %s there are only %d", what, n)
		}
	}
}

// Drawn seats over the greatest measures.
func TestDrawnSeatsOfGreatMeasures(t *testing.T) {
	s := testaid.Source(304)
	for range 3000 {
		c := measures(1+s.Below(256), 1+s.Below(16), 1+s.Below(1024), 1, 1+s.Below(32))
		c.Chunk = 1 + s.Below(min(c.Budget, 70))
		seats := someSeats(&s, c, 16)
		for i := range seats {
			seats[i].Want = s.Below(40)
		}
		makesAsWords(t, c, seats, somePicks(&s, seats))
	}
}
