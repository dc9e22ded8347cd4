package gauge_test

import (
	"testing"

	"augur/api"
	"augur/gauge"
	"augur/testaid"
)

// Whatever comes: right, of the same Most, and from there on so too.
func TestRightStaysRight(t *testing.T) {
	for _, g := range rightGauges() {
		for nodes := 1; nodes <= 32; nodes++ {
			for accepted := range nodes {
				next := behind(t, g, nodes, accepted)
				if !isRight(next) || gauge.Check(next) != api.OK || next.Most != g.Most {
					t.Fatalf("what follows: Next(%v, %d, %d) = %v", g, nodes, accepted, next)
				}
			}
		}
	}
}

// Long runs of trees as a request has them: none larger than the gauge says.
func TestLongRuns(t *testing.T) {
	s := testaid.Source(210)
	for most := 1; most <= 32; most++ {
		g, _ := gauge.New(most)
		for range 5000 {
			nodes := 1 + s.Below(g.Size)
			accepted := s.Below(nodes)
			next := behind(t, g, nodes, accepted)
			if !isRight(next) || next.Most != most || next != following(g, nodes, accepted) {
				t.Fatalf("what follows: Next(%v, %d, %d) = %v", g, nodes, accepted, next)
			}
			g = next
		}
	}
}

// Guesses that never come true: the Size is 1 behind five of them, and behind four roots 2 again.
func TestFallsAndComesBack(t *testing.T) {
	s := testaid.Source(211)
	for _, g := range rightGauges() {
		was := g
		for range 5 {
			g = behind(t, g, 2+s.Below(31), 0)
		}
		if g != of(1, was.Most, 0) {
			t.Fatalf("what follows: behind %v and five trees without a true guess: %v", was, g)
		}
		for range 3 {
			g = behind(t, g, 1, 0)
			if g.Size != 1 {
				t.Fatalf("what follows: too early behind %v: %v", was, g)
			}
		}
		if g = behind(t, g, 1, 0); g != of(min(2, was.Most), was.Most, 0) {
			t.Fatalf("what follows: behind %v, five trees without a true guess and four roots: %v", was, g)
		}
	}
}

// Five are needed where the Size is 32, four are not enough.
func TestFallOfTheGreatest(t *testing.T) {
	g := of(32, 32, 0)
	for _, size := range []int{16, 8, 4, 2, 1, 1} {
		g = behind(t, g, 2, 0)
		if g != of(size, 32, 0) {
			t.Fatalf("P17.3: %v, want the Size %d", g, size)
		}
	}
}

// Trees of which every guess comes true: the Size never falls, and is Most behind Most of them.
func TestGrowsToMost(t *testing.T) {
	s := testaid.Source(212)
	for _, g := range rightGauges() {
		was := g
		for range was.Most {
			nodes := 2
			if s.Below(2) == 0 {
				nodes += s.Below(3)
			}
			next := behind(t, g, nodes, nodes-1)
			if next.Size < g.Size {
				t.Fatalf("what follows: Next(%v, %d, %d) = %v", g, nodes, nodes-1, next)
			}
			g = next
		}
		if g != of(was.Most, was.Most, 0) {
			t.Fatalf("what follows: behind %v and %d trees of true guesses: %v", was, was.Most, g)
		}
	}
}

// A tree of the root alone among true guesses takes nothing away.
func TestRootsAmongTrueGuesses(t *testing.T) {
	s := testaid.Source(213)
	for _, g := range rightGauges() {
		for range 40 {
			nodes := 1 + s.Below(4)
			next := behind(t, g, nodes, nodes-1)
			if next.Size < g.Size {
				t.Fatalf("what follows: Next(%v, %d, %d) = %v", g, nodes, nodes-1, next)
			}
			g = next
		}
	}
}
