package judge_test

import (
	"math"
	"testing"

	"augur/testaid"
)

func TestPlanExamples(t *testing.T) {
	plans(t, []int{0, 1, 3}, []int{10, 11, 12, 13, 14}, []int{10, 11, 12}, 13, 12)
	plans(t, []int{0, 2}, []int{10, 11, 12}, []int{10, 11}, 12, 11)
	plansNot(t, []int{0, 3}, []int{10, 11, 12}, []int{10, 11})
	plansNot(t, []int{0, 1}, []int{10, 11}, []int{10})
	plansNot(t, []int{0, 1}, []int{10, 11}, []int{5, 5})
}

func TestPlanNoPlaces(t *testing.T) {
	for _, slots := range [][]int{nil, {10}, {10, 11, 12}} {
		for _, to := range [][]int{nil, {10}, {5, 5}, {10, 11, 12}} {
			plansNot(t, nil, slots, to)
			plansNot(t, []int{}, slots, to)
		}
	}
}

// Places below 0 and beyond the slots, at each place of the way.
func TestPlanNoSuchPlace(t *testing.T) {
	for n := range 5 {
		slots := []int{10, 11, 12, 13, 14}[:n]
		for _, place := range []int{math.MinInt, -1 << 32, -2, -1, n, n + 1, 10, 32, 1 << 32, math.MaxInt} {
			plansNot(t, []int{place}, slots, []int{1})
			for at := range n {
				way := []int{0, 1, 2, 3}[:n]
				plans(t, way, slots, slots)
				way[at] = place
				plansNot(t, way, slots, []int{1, 2, 3, 4, 5})
			}
		}
	}
	plansNot(t, []int{0}, nil, []int{1})
	plans(t, []int{4}, []int{10, 11, 12, 13, 14}, []int{1}, 14, 1)
}

// to with fewer numbers, with as many, with more.
func TestPlanHowManyTo(t *testing.T) {
	slots, to := []int{10, 11, 12, 13}, []int{20, 21, 22, 23, 24, 25, 26}
	for n := 1; n <= 4; n++ {
		way := []int{0, 1, 2, 3}[:n]
		for many := range len(to) + 1 {
			if many < n {
				plansNot(t, way, slots, to[:many])
			} else {
				plans(t, way, slots, to[:many], []int{10, 20, 11, 21, 12, 22, 13, 23}[:2*n]...)
			}
		}
		plansNot(t, way, slots, nil)
	}
}

// Two alike among the first so many of to are wrong, whether side by side or not; two alike behind these count for nothing.
func TestPlanAlikeTo(t *testing.T) {
	slots, way := []int{10, 11, 12, 13}, []int{0, 1, 2, 3}
	for a := range 4 {
		for b := a + 1; b < 4; b++ {
			for _, x := range append(anyNumbers(), 20, 11) {
				to := []int{20, 21, 22, 23}
				to[a], to[b] = x, x
				plansNot(t, way, slots, to)
				plansNot(t, way, slots, append(to, 30, 31))
			}
		}
	}
	moves := []int{10, 20, 11, 21, 12, 22, 13, 23}
	for _, behind := range [][]int{{20}, {23}, {30, 30}, {20, 21, 22, 23}, {30, 31, 30}, {10, 11}} {
		plans(t, way, slots, append([]int{20, 21, 22, 23}, behind...), moves...)
	}
	plans(t, way[:2], slots, []int{20, 21, 21, 20}, moves[:4]...)
	plansNot(t, way[:3], slots, []int{20, 21, 21, 20})
	// Alike but for a few bits, or for the sign.
	plans(t, way[:3], slots, []int{5, 5 + 1<<32, -5}, 10, 5, 11, 5+1<<32, 12, -5)
	plans(t, way[:3], slots, []int{math.MinInt, math.MaxInt, 0}, 10, math.MinInt, 11, math.MaxInt, 12, 0)
}

// A place may stand twice in a way: its slot goes to both.
func TestPlanPlacesTwice(t *testing.T) {
	plans(t, []int{0, 0}, []int{10}, []int{10, 11}, 10, 11)
	plans(t, []int{0, 0}, []int{10}, []int{11, 10}, 10, 11)
	plans(t, []int{1, 0, 1, 1}, []int{10, 11}, []int{5, 6, 7, 11}, 11, 5, 10, 6, 11, 7)
	plansNot(t, []int{0, 0}, []int{10}, []int{11, 11})
	plansNot(t, []int{0, 0}, []int{10}, []int{10, 10})
}

// Slots are any numbers, alike ones too, and so are those of to.
func TestPlanAnyNumbers(t *testing.T) {
	for _, x := range anyNumbers() {
		for _, y := range anyNumbers() {
			if x == y {
				plans(t, []int{0}, []int{x}, []int{y})
				plansNot(t, []int{0, 1}, []int{8, 9}, []int{x, y})
			} else {
				plans(t, []int{0}, []int{x}, []int{y}, x, y)
				plans(t, []int{0, 1}, []int{x, x}, []int{x, y}, x, y)
				plans(t, []int{0, 1}, []int{x, y}, []int{y, x}, x, y, y, x)
				plans(t, []int{0, 1}, []int{x, y}, []int{x, y})
			}
		}
	}
	plans(t, []int{0, 1, 2}, []int{5, 5, 5}, []int{4, 5, 6}, 5, 4, 5, 6)
}

// Moves to where it is already are left out, the others stay in the way's order.
func TestPlanWhatStays(t *testing.T) {
	slots := []int{10, 11, 12, 13}
	plans(t, []int{0}, slots, []int{10})
	plans(t, []int{0, 1, 2, 3}, slots, slots)
	plans(t, []int{0, 1, 2, 3}, slots, []int{10, 11, 12, 13, 13, 10})
	plans(t, []int{3, 2, 1, 0}, slots, slots, 13, 10, 12, 11, 11, 12, 10, 13)
	plans(t, []int{0, 2, 1, 3}, slots, slots, 12, 11, 11, 12)
	plans(t, []int{0, 1, 3}, slots, []int{10, 12, 13}, 11, 12)
	plans(t, []int{1, 2, 3}, slots, []int{10, 11, 12}, 11, 10, 12, 11, 13, 12)
	plans(t, []int{3, 0, 2}, slots, []int{9, 8, 7}, 13, 9, 10, 8, 12, 7)
	// A slot that another move goes from, or to, is no reason to leave one out.
	plans(t, []int{0, 1}, slots, []int{11, 10}, 10, 11, 11, 10)
	plans(t, []int{0, 1}, slots, []int{10, 9}, 11, 9)
}

// All short ways, slots and numbers to go to.
func TestPlanAllShort(t *testing.T) {
	right, wrong := 0, 0
	for _, way := range testaid.Lists(3, -1, 0, 1, 2) {
		for _, slots := range testaid.Lists(2, 0, 1, 2) {
			for _, to := range testaid.Lists(4, 0, 1, 2) {
				if plansAsWords(t, way, slots, to) {
					right++
				} else {
					wrong++
				}
			}
		}
	}
	if right < 1000 || wrong < 1000 {
		t.Errorf("%d plans, %d errors", right, wrong)
	}
}

func TestPlanDrawn(t *testing.T) {
	s := testaid.Source(203)
	right := 0
	for range 10000 {
		slots, to := make([]int, 1+s.Below(40)), make([]int, s.Below(40))
		for i := range slots {
			slots[i] = s.Below(50)
		}
		for i := range to {
			to[i] = 7*i%50 + s.Below(2)*s.Below(2)*s.Below(2)
		}
		way := make([]int, s.Below(len(to)+2))
		for i := range way {
			way[i] = s.Below(len(slots))
		}
		if len(way) > 0 && s.Below(5) == 0 {
			way[s.Below(len(way))] = s.Below(len(slots)+4) - 2
		}
		if plansAsWords(t, way, slots, to) {
			right++
		}
		if t.Failed() {
			t.FailNow()
		}
	}
	if right < 1000 || right > 9000 {
		t.Errorf("%d plans of 10000", right)
	}
}

// Lists may be far longer than any tree.
func TestPlanVeryLong(t *testing.T) {
	const n = 1 << 20
	way, slots, to := make([]int, n), make([]int, n), make([]int, n)
	var pairs []int
	for i := range n {
		way[i], slots[i], to[i] = i, i, n-1-i
		if i != n-1-i {
			pairs = append(pairs, i, n-1-i)
		}
	}
	plans(t, way, slots, to, pairs...)
	plans(t, way, slots, slots)
	plansNot(t, way, slots[1:], to)
	plansNot(t, way, slots, to[1:])
	to[0] = to[n-1]
	plansNot(t, way, slots, to)
	plans(t, way[1:], slots, to[1:], pairs[2:]...)
}
