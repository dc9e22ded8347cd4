package sched_test

import (
	"math"
	"testing"

	"augur/api"
	"augur/sched"
)

// checks: Check answers just this.
func checks(t *testing.T, c api.Serve, long int, want api.Errno) {
	t.Helper()
	if e := sched.Check(c, long); e != want {
		t.Errorf("P19.1: Check(%v, %d) = %d, want %d", c, long, e, want)
	}
}

// Measures of the document's examples.
func TestCheckExamples(t *testing.T) {
	checks(t, four(), 8, api.OK)
	checks(t, four(), 9, api.ErrServe)
	checks(t, measures(4, 2, 6, 7, 4), 1, api.ErrServe)
	checks(t, measures(8, 4, 16, 2, 8), 16, api.OK)
	checks(t, measures(8, 2, 8, 3, 4), 12, api.OK)
	checks(t, measures(5, 2, 8, 3, 4), 12, api.ErrServe)
}

// Each bound is met, and missed by one, the other numbers being right.
func TestCheckAtTheBounds(t *testing.T) {
	for _, c := range []struct {
		inside    api.Serve
		insideLen int
		outside   api.Serve
		outLen    int
	}{
		{four(), 1, four(), 0},
		{measures(256, 16, 6, 3, 4), 64, measures(256, 16, 6, 3, 4), 65},
		{measures(1, 1, 6, 3, 4), 1, measures(0, 1, 6, 3, 4), 1},
		{measures(256, 1, 6, 3, 4), 64, measures(257, 1, 6, 3, 4), 64},
		{measures(4, 1, 6, 3, 4), 4, measures(4, 0, 6, 3, 4), 1},
		{measures(4, 16, 6, 3, 4), 64, measures(4, 17, 6, 3, 4), 64},
		{measures(8, 8, 6, 3, 4), 64, measures(9, 7, 6, 3, 4), 64},
		{measures(1, 16, 6, 3, 4), 16, measures(1, 16, 6, 3, 4), 17},
		{measures(16, 1, 6, 3, 4), 16, measures(16, 1, 6, 3, 4), 17},
		{measures(4, 2, 6, 1, 4), 8, measures(4, 2, 6, 0, 4), 8},
		{measures(4, 2, 6, 6, 4), 8, measures(4, 2, 6, 7, 4), 8},
		{measures(4, 2, 1, 1, 4), 8, measures(4, 2, 0, 1, 4), 8},
		{measures(4, 2, 1, 1, 4), 8, measures(4, 2, 0, 0, 4), 8},
		{measures(4, 2, 1024, 3, 4), 8, measures(4, 2, 1025, 3, 4), 8},
		{measures(4, 2, 1024, 1024, 4), 8, measures(4, 2, 1025, 1025, 4), 8},
		{measures(4, 2, 6, 3, 1), 8, measures(4, 2, 6, 3, 0), 8},
		{measures(4, 2, 6, 3, 32), 8, measures(4, 2, 6, 3, 33), 8},
		{measures(1, 1, 1, 1, 1), 1, measures(-1, -1, 1, 1, 1), 1},
		{measures(256, 16, 1024, 1024, 32), 64, measures(257, 17, 1025, 1026, 33), 65},
	} {
		checks(t, c.inside, c.insideLen, api.OK)
		checks(t, c.outside, c.outLen, api.ErrServe)
	}
}

// Tree asks for nothing of Budget, Chunk or the pool, nor Chunk of the pool or of len.
func TestCheckOfWhatIsNotAskedFor(t *testing.T) {
	checks(t, measures(1, 1, 1, 1, 32), 1, api.OK)
	checks(t, measures(1, 1, 1024, 1024, 32), 1, api.OK)
	checks(t, measures(256, 16, 1, 1, 1), 64, api.OK)
}

// All pools and lengths: the pool must hold one text however long.
func TestCheckOfEachPool(t *testing.T) {
	for blocks := 0; blocks <= 66; blocks++ {
		for block := 0; block <= 17; block++ {
			for long := 0; long <= 65; long++ {
				c := measures(blocks, block, 6, 3, 4)
				want := api.ErrServe
				if mayServe(c, long) {
					want = api.OK
				}
				checks(t, c, long, want)
			}
		}
	}
}

// Products that wrap round let nothing in.
func TestCheckOfFarNumbers(t *testing.T) {
	for _, c := range [][2]int{{math.MaxInt, math.MaxInt}, {1 << 32, 1 << 31}, {1<<32 + 4, 2}, {4, 1<<62 + 2}, {math.MinInt, math.MinInt}, {-4, -2}, {math.MinInt, 1}, {1 << 62, 4}} {
		checks(t, measures(c[0], c[1], 6, 3, 4), 1, api.ErrServe)
	}
	for _, far := range []int{math.MinInt, math.MinInt + 1, -1, 1<<32 + 3, math.MaxInt} {
		checks(t, four(), far, api.ErrServe)
		checks(t, measures(4, 2, far, 3, 4), 1, api.ErrServe)
		checks(t, measures(4, 2, 6, far, 4), 1, api.ErrServe)
		checks(t, measures(4, 2, 6, 3, far), 1, api.ErrServe)
		checks(t, measures(4, 2, far, far, 4), 1, api.ErrServe)
	}
}

// Any numbers, two at a time beside right ones.
func TestCheckOfAnyNumbers(t *testing.T) {
	right := [6]int{256, 16, 1024, 16, 16, 64}
	accepted := 0
	for i := range right {
		for j := range right {
			for _, x := range anyNumbers() {
				for _, y := range anyNumbers() {
					n := right
					n[i], n[j] = x, y
					c := measures(n[0], n[1], n[2], n[3], n[4])
					want := api.ErrServe
					if mayServe(c, n[5]) {
						want = api.OK
						accepted++
					}
					checks(t, c, n[5], want)
				}
			}
		}
	}
	if accepted < 1000 {
		t.Errorf("only %d measures may be", accepted)
	}
}
