package gauge_test

import (
	"slices"
	"testing"

	"augur/api"
	"augur/gauge"
)

func TestNewExamples(t *testing.T) {
	begins(t, 8, of(4, 8, 0))
	begins(t, 3, of(3, 3, 0))
	begins(t, 1, of(1, 1, 0))
}

func TestNewOfEachMost(t *testing.T) {
	for most := 1; most <= 3; most++ {
		begins(t, most, of(most, most, 0))
	}
	for most := 4; most <= 32; most++ {
		begins(t, most, of(4, most, 0))
	}
}

func TestNewIsRight(t *testing.T) {
	for most := 1; most <= 32; most++ {
		if g, _ := gauge.New(most); !isRight(g) || gauge.Check(g) != api.OK {
			t.Errorf("P17.1: New(%d) = %v is not right", most, g)
		}
	}
}

func TestNewRefuses(t *testing.T) {
	for _, most := range anyNumbers() {
		if 1 <= most && most <= 32 {
			continue
		}
		if g, e := gauge.New(most); e != api.ErrArg || g != (api.Gauge{}) {
			t.Errorf("P17.1: New(%d) = %v, %d, want the error %d", most, g, e, api.ErrArg)
		}
	}
}

// Each bound is met, and missed by one, the other numbers being right.
func TestCheckAtTheBounds(t *testing.T) {
	for _, c := range []struct{ inside, outside api.Gauge }{
		{of(1, 1, 0), of(1, 0, 0)},
		{of(1, 1, 0), of(0, 1, 0)},
		{of(1, 1, 0), of(1, 1, -1)},
		{of(1, 1, 0), of(2, 1, 0)},
		{of(1, 32, 3), of(1, 33, 3)},
		{of(32, 32, 3), of(33, 32, 3)},
		{of(32, 32, 3), of(33, 33, 3)},
		{of(8, 8, 2), of(9, 8, 2)},
		{of(4, 8, 3), of(4, 8, 4)},
		{of(4, 4, 1), of(4, 3, 1)},
		{of(1, 1, 0), of(0, 0, 0)},
		{of(1, 1, 0), of(-1, -1, 0)},
	} {
		if e := gauge.Check(c.inside); e != api.OK {
			t.Errorf("P17.2: Check(%v) = %d", c.inside, e)
		}
		if e := gauge.Check(c.outside); e != api.ErrArg {
			t.Errorf("P17.2: Check(%v) = %d, want %d", c.outside, e, api.ErrArg)
		}
	}
}

func TestCheckOfAllRightOnes(t *testing.T) {
	for _, g := range rightGauges() {
		if e := gauge.Check(g); e != api.OK {
			t.Errorf("P17.2: Check(%v) = %d", g, e)
		}
	}
}

func TestCheckOfAnyNumbers(t *testing.T) {
	all, right := anyGauges(), 0
	for _, g := range all {
		want := api.ErrArg
		if isRight(g) {
			want = api.OK
			right++
		}
		if e := gauge.Check(g); e != want {
			t.Errorf("P17.2: Check(%v) = %d, want %d", g, e, want)
		}
	}
	if right < 100 || right > len(all)/2 {
		t.Errorf("%d of %d gauges are right", right, len(all))
	}
}

// Gauges are values: alike ones are told so by ==, and one that was handed in is as it was.
func TestGaugesAreValues(t *testing.T) {
	first, _ := gauge.New(8)
	second, _ := gauge.New(8)
	other, _ := gauge.New(9)
	if first != second || first == other {
		t.Errorf("P17.1: New(8) is %v and %v, New(9) is %v", first, second, other)
	}
	was := first
	next := behind(t, first, 4, 3)
	next.Size = 0
	if first != was || behind(t, first, 4, 3) != of(8, 8, 0) {
		t.Errorf("R5: Next changed what it was given: %v, before %v", first, was)
	}
}

// What was asked before, and in which order, is seen nowhere (R6).
func TestNothingIsKept(t *testing.T) {
	gauges := rightGauges()
	answers := make([]api.Gauge, len(gauges))
	for i, g := range gauges {
		answers[i] = behind(t, g, 1+i%32, i%32)
	}
	for i, g := range slices.Backward(gauges) {
		gauge.New(i)
		gauge.Next(of(1, 8, 3), 1, 0)
		gauge.Next(of(9, 8, 0), 1, 0)
		if next := behind(t, g, 1+i%32, i%32); next != answers[i] {
			t.Fatalf("R6: Next(%v, %d, %d) = %v, and before it was %v", g, 1+i%32, i%32, next, answers[i])
		}
	}
}
