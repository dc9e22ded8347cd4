package gauge_test

import (
	"math"
	"testing"

	"augur/api"
	"augur/gauge"
)

// The chapter's words, said a second time: bound by bound, and sizes by counting one at a time.

// of: the gauge with these numbers, in the order of the chapter's examples.
func of(size, most, run int) api.Gauge { return api.Gauge{Size: size, Most: most, Run: run} }

// isRight: the three bounds.
func isRight(g api.Gauge) bool {
	return 1 <= g.Most && g.Most <= 32 && 1 <= g.Size && g.Size <= g.Most && 0 <= g.Run && g.Run <= 3
}

// mayFollow: does none of Next's errors apply?
func mayFollow(g api.Gauge, nodes, accepted int) bool {
	return isRight(g) && 1 <= nodes && nodes <= 32 && 0 <= accepted && accepted < nodes
}

// counted: as many as most, if there are not so many.
func counted(many, most int) int {
	size := 0
	for size < many && size < most {
		size++
	}
	return size
}

// halved: one for each two that can be taken away, or 1.
func halved(size int) int {
	pairs := 0
	for ; size >= 2; size -= 2 {
		pairs++
	}
	if pairs == 0 {
		return 1
	}
	return pairs
}

// following: what Next is to answer, if there is no error.
func following(g api.Gauge, nodes, accepted int) api.Gauge {
	wrong := nodes - 1 - accepted
	switch {
	case nodes == 1 && g.Size != 1:
		return g
	case nodes == 1 && g.Run != 3:
		return of(1, g.Most, g.Run+1)
	case nodes == 1:
		return of(counted(2, g.Most), g.Most, 0)
	case accepted == 0:
		return of(halved(g.Size), g.Most, 0)
	case accepted >= wrong:
		return of(counted(g.Size+1+accepted, g.Most), g.Most, 0)
	default:
		return of(g.Size, g.Most, 0)
	}
}

// rightGauges: all there are.
func rightGauges() []api.Gauge {
	var all []api.Gauge
	for most := 1; most <= 32; most++ {
		for size := 1; size <= most; size++ {
			for run := 0; run <= 3; run++ {
				all = append(all, of(size, most, run))
			}
		}
	}
	return all
}

// anyNumbers: those around each bound, and far ones, of which the low bits alone would be right too.
func anyNumbers() []int {
	return []int{
		math.MinInt, math.MinInt + 1, math.MinInt + 4, -1 << 32, -1<<32 + 2, -257, -255, -33, -32, -4, -3, -2, -1,
		0, 1, 2, 3, 4, 5, 8, 16, 31, 32, 33, 34, 63, 64, 65, 255, 256, 257, 1<<31 - 1, 1 << 31,
		1 << 32, 1<<32 + 1, 1<<32 + 3, 1 << 62, math.MaxInt - 1, math.MaxInt,
	}
}

// anyGauges: of all such numbers, right ones and wrong ones.
func anyGauges() []api.Gauge {
	var all []api.Gauge
	for _, size := range anyNumbers() {
		for _, most := range anyNumbers() {
			for _, run := range anyNumbers() {
				all = append(all, of(size, most, run))
			}
		}
	}
	return all
}

// begins: New answers just this.
func begins(t *testing.T, most int, want api.Gauge) {
	t.Helper()
	if g, e := gauge.New(most); e != api.OK || g != want {
		t.Errorf("P17.1: New(%d) = %v, %d, want %v", most, g, e, want)
	}
}

// goesOn: Next answers just this.
func goesOn(t *testing.T, g api.Gauge, nodes, accepted int, want api.Gauge) {
	t.Helper()
	if next, e := gauge.Next(g, nodes, accepted); e != api.OK || next != want {
		t.Errorf("P17.3: Next(%v, %d, %d) = %v, %d, want %v", g, nodes, accepted, next, e, want)
	}
}

// goesNot: Next answers ErrArg, and nothing beside it.
func goesNot(t *testing.T, g api.Gauge, nodes, accepted int) {
	t.Helper()
	if next, e := gauge.Next(g, nodes, accepted); e != api.ErrArg || next != (api.Gauge{}) {
		t.Errorf("P17.3: Next(%v, %d, %d) = %v, %d, want the error %d", g, nodes, accepted, next, e, api.ErrArg)
	}
}

// goesAsWords: Next answers what the second writing says; was it a gauge?
func goesAsWords(t *testing.T, g api.Gauge, nodes, accepted int) bool {
	t.Helper()
	if !mayFollow(g, nodes, accepted) {
		goesNot(t, g, nodes, accepted)
		return false
	}
	goesOn(t, g, nodes, accepted, following(g, nodes, accepted))
	return true
}

// behind: what Next answers, which must be no error.
func behind(t *testing.T, g api.Gauge, nodes, accepted int) api.Gauge {
	t.Helper()
	next, e := gauge.Next(g, nodes, accepted)
	if e != api.OK {
		t.Fatalf("P17.3: Next(%v, %d, %d) answered the error %d", g, nodes, accepted, e)
	}
	return next
}
