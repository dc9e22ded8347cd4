package gauge_test

import (
	"math"
	"testing"

	"augur/api"
	"augur/gauge"
)

func TestNextExamples(t *testing.T) {
	goesOn(t, of(4, 8, 0), 4, 0, of(2, 8, 0))
	goesOn(t, of(2, 8, 0), 2, 0, of(1, 8, 0))
	goesOn(t, of(4, 8, 2), 1, 0, of(4, 8, 2))
	goesOn(t, of(4, 8, 0), 4, 3, of(8, 8, 0))
	goesOn(t, of(4, 8, 0), 4, 1, of(4, 8, 0))
	goesOn(t, of(4, 8, 0), 3, 1, of(6, 8, 0))
	goesOn(t, of(1, 1, 3), 1, 0, of(1, 1, 0))
	goesNot(t, of(4, 8, 0), 4, 4)
	goesNot(t, of(4, 8, 0), 0, 0)
	goesNot(t, of(9, 8, 0), 1, 0)
	goesNot(t, of(4, 8, 4), 1, 0)
}

func TestFourRootsExample(t *testing.T) {
	g := of(1, 8, 0)
	for _, want := range []api.Gauge{of(1, 8, 1), of(1, 8, 2), of(1, 8, 3), of(2, 8, 0)} {
		goesOn(t, g, 1, 0, want)
		g = want
	}
}

// The gauge of the whole's third example: the Size 4, then 7.
func TestExampleOfTheWhole(t *testing.T) {
	g, _ := gauge.New(8)
	goesOn(t, g, 4, 2, of(7, 8, 0))
	goesOn(t, of(7, 8, 0), 3, 2, of(8, 8, 0))
	goesOn(t, g, 2, 0, of(2, 8, 0))
}

// All right gauges, behind all trees that may be.
func TestNextOfAllThereAre(t *testing.T) {
	for _, g := range rightGauges() {
		for nodes := 1; nodes <= 32; nodes++ {
			for accepted := range nodes {
				if !goesAsWords(t, g, nodes, accepted) {
					t.Fatalf("Next(%v, %d, %d) may not be", g, nodes, accepted)
				}
			}
		}
	}
}

func TestRootAlone(t *testing.T) {
	for most := 2; most <= 32; most++ {
		for run := range 4 {
			for size := 2; size <= most; size++ {
				goesOn(t, of(size, most, run), 1, 0, of(size, most, run))
			}
		}
		goesOn(t, of(1, most, 0), 1, 0, of(1, most, 1))
		goesOn(t, of(1, most, 1), 1, 0, of(1, most, 2))
		goesOn(t, of(1, most, 2), 1, 0, of(1, most, 3))
		goesOn(t, of(1, most, 3), 1, 0, of(2, most, 0))
	}
	goesOn(t, of(1, 1, 0), 1, 0, of(1, 1, 1))
	goesOn(t, of(1, 1, 1), 1, 0, of(1, 1, 2))
	goesOn(t, of(1, 1, 2), 1, 0, of(1, 1, 3))
	goesOn(t, of(1, 1, 3), 1, 0, of(1, 1, 0))
}

func TestNoGuessCameTrue(t *testing.T) {
	for size, half := range []int{1: 1, 2: 1, 3: 1, 4: 2, 5: 2, 6: 3, 7: 3, 8: 4, 9: 4, 31: 15, 32: 16} {
		if half == 0 {
			continue
		}
		for run := range 4 {
			for _, nodes := range []int{2, 3, 4, 31, 32} {
				goesOn(t, of(size, 32, run), nodes, 0, of(half, 32, 0))
				goesOn(t, of(size, size, run), nodes, 0, of(half, size, 0))
			}
		}
	}
}

// Half of the guesses is enough, one fewer is not; of an odd number of guesses half is no whole number.
func TestHalfOfTheGuesses(t *testing.T) {
	for _, c := range []struct{ nodes, enough int }{{2, 1}, {3, 1}, {4, 2}, {5, 2}, {6, 3}, {7, 3}, {8, 4}, {9, 4}, {31, 15}, {32, 16}} {
		for run := range 4 {
			g := of(5, 32, run)
			goesOn(t, g, c.nodes, c.enough, of(5+c.enough+1, 32, 0))
			goesOn(t, g, c.nodes, c.nodes-1, of(min(5+c.nodes, 32), 32, 0))
			if c.enough > 1 {
				goesOn(t, g, c.nodes, c.enough-1, of(5, 32, 0))
				goesOn(t, g, c.nodes, 1, of(5, 32, 0))
			}
		}
	}
}

// The Size grows up to Most, also by one or by none.
func TestMostAtMost(t *testing.T) {
	goesOn(t, of(5, 8, 1), 3, 1, of(7, 8, 0))
	goesOn(t, of(6, 8, 1), 3, 1, of(8, 8, 0))
	goesOn(t, of(7, 8, 1), 3, 1, of(8, 8, 0))
	goesOn(t, of(8, 8, 1), 3, 1, of(8, 8, 0))
	goesOn(t, of(1, 8, 3), 32, 31, of(8, 8, 0))
	goesOn(t, of(1, 1, 3), 32, 31, of(1, 1, 0))
	goesOn(t, of(1, 1, 3), 32, 0, of(1, 1, 0))
	goesOn(t, of(32, 32, 0), 32, 31, of(32, 32, 0))
	goesOn(t, of(1, 32, 0), 32, 31, of(32, 32, 0))
	goesOn(t, of(1, 32, 0), 31, 30, of(32, 32, 0))
	goesOn(t, of(1, 32, 0), 30, 29, of(31, 32, 0))
}

// A tree may have more nodes than the gauge's Size and Most: neither is asked for.
func TestTreesAboveTheGauge(t *testing.T) {
	goesOn(t, of(2, 3, 1), 32, 0, of(1, 3, 0))
	goesOn(t, of(2, 3, 1), 32, 5, of(2, 3, 0))
	goesOn(t, of(2, 3, 1), 32, 16, of(3, 3, 0))
	goesOn(t, of(1, 1, 2), 9, 2, of(1, 1, 0))
}

// Each of the numbers is missed by one, all else being right.
func TestNextAtTheBounds(t *testing.T) {
	for _, g := range []api.Gauge{of(1, 1, 0), of(4, 8, 0), of(4, 8, 3), of(32, 32, 3)} {
		for nodes := 1; nodes <= 32; nodes++ {
			goesNot(t, g, nodes, -1)
			goesNot(t, g, nodes, nodes)
			goesNot(t, g, nodes, nodes+1)
		}
		for accepted := -1; accepted <= 34; accepted++ {
			goesNot(t, g, 0, accepted)
			goesNot(t, g, -1, accepted)
			goesNot(t, g, 33, accepted)
		}
	}
	for _, g := range []api.Gauge{{}, of(0, 1, 0), of(2, 1, 0), of(1, 0, 0), of(1, 33, 0), of(33, 33, 0), of(1, 1, -1), of(1, 1, 4), of(-1, -1, 0)} {
		for nodes := 0; nodes <= 33; nodes++ {
			for accepted := -1; accepted <= nodes; accepted++ {
				goesNot(t, g, nodes, accepted)
			}
		}
	}
}

// Numbers of any size, in trees and in gauges: differences that wrap round let nothing in.
func TestNextOfAnyNumbers(t *testing.T) {
	for _, nodes := range anyNumbers() {
		for _, accepted := range anyNumbers() {
			for _, g := range []api.Gauge{{}, of(1, 1, 0), of(4, 8, 0), of(1, 8, 3), of(32, 32, 3), of(9, 8, 0), of(math.MaxInt, math.MaxInt, 0)} {
				goesAsWords(t, g, nodes, accepted)
			}
		}
	}
	for _, g := range anyGauges() {
		goesAsWords(t, g, 1, 0)
		goesAsWords(t, g, 4, 0)
		goesAsWords(t, g, 4, 3)
		goesAsWords(t, g, 32, 31)
	}
	goesNot(t, of(4, 8, 0), math.MinInt, math.MaxInt)
	goesNot(t, of(4, 8, 0), math.MinInt, 0)
	goesNot(t, of(4, 8, 0), 4, math.MinInt)
}
