package pick_test

import (
	"math"
	"slices"
	"testing"

	"augur/api"
	"augur/draw"
	"augur/testaid"
)

func TestChooseExamples(t *testing.T) {
	greedy := params(0, 0, 1000, 256)
	for _, c := range []struct {
		p     api.Params
		seen  []int
		allow []bool
		want  int
	}{
		{greedy, nil, nil, 1},
		{greedy, nil, []bool{true, false, true, true}, 2},
		{params(0, 0, 1000, 512), []int{1}, nil, 2},
		{greedy, nil, []bool{false}, api.End},
	} {
		for pos := -2; pos < 70; pos++ {
			if got := choiceOf(t, c.p, four(), c.seen, pos, c.allow); got != c.want {
				t.Errorf("P10.3: Choose(%v, %v, %v, %d, %v) = %d, want %d", c.p, four(), c.seen, pos, c.allow, got, c.want)
			}
		}
	}
}

// Without chances it is End, which is the token 0, also where the token 0 is not allowed or is none of the logits' places.
func TestChooseOfNone(t *testing.T) {
	for _, p := range []api.Params{params(0, 0, 1000, 256), params(256, 3, 900, 300), seeded(params(4096, 0, 1, 64), 9)} {
		for pos := range 50 {
			if got := choiceOf(t, p, nil, []int{1}, pos, nil); got != api.End {
				t.Errorf("P10.3: the choice of no logits = %d, want End", got)
			}
			for _, allow := range [][]bool{{false}, {false, false, false, false}, {false, false, false, false, true}} {
				if got := choiceOf(t, p, four(), []int{1}, pos, allow); got != api.End {
					t.Errorf("P10.3: the choice of what %v allows = %d, want End", allow, got)
				}
			}
		}
	}
}

// byDraw: which of so many alike tokens the number drawn at a position says.
func byDraw(seed uint64, pos, n int) int {
	return int(draw.Below(draw.At(seed, pos, 0), uint64(n)*65536) / 65536)
}

func TestChooseOfAlike(t *testing.T) {
	for _, n := range []int{1, 2, 3, 64, 65, 5000} {
		alike := make([]int64, n)
		for _, seed := range []uint64{0, 1, 5, 1 << 63, math.MaxUint64} {
			for _, pos := range []int{0, 1, 2, 3, 63, 64, 1000, math.MaxInt, -1, -2, math.MinInt} {
				p := seeded(params(256, 0, 1000, 256), seed)
				if got, want := choiceOf(t, p, alike, nil, pos, nil), byDraw(seed, pos, n); got != want {
					t.Errorf("P10.3: of %d alike logits at %d with the seed %d: %d, want %d", n, pos, seed, got, want)
				}
			}
		}
	}
}

// At each border between two tokens: the first one whose weight and the weights ahead of it are above what was drawn. Seeds are sought with which just the numbers beside a border are drawn.
func TestChooseAtBorders(t *testing.T) {
	p := params(1, 0, 1000, 256)
	logits := []int64{0, -3, 0}
	l := chancesOf(t, p, logits, nil, nil)
	if len(l) != 3 || l[2].Token != 1 {
		t.Fatalf("P10.2: Chances(%v, %v) = %v", p, logits, l)
	}
	found := map[int]int{}
	for seed := range uint64(400000) {
		drawn := int64(draw.Below(draw.At(seed, 0, 0), uint64(weightOf(l))))
		for border := 1; border <= 2; border++ {
			beside := drawn - weightOf(l[:border])
			if beside != 0 && beside != -1 {
				continue
			}
			want := l[border].Token
			if beside == -1 {
				want = l[border-1].Token
			}
			if got := choiceOf(t, seeded(p, seed), logits, nil, 0, nil); got != want {
				t.Errorf("P10.3: %d is drawn of %v: %d is chosen, want %d", drawn, l, got, want)
			}
			found[2*border+int(beside)]++
		}
	}
	if len(found) != 4 {
		t.Errorf("only %d of 4 numbers beside a border were drawn", len(found))
	}
}

// The choice goes by what was drawn for the position and the lane 0, and by nothing else that is drawn.
func TestChooseByPosition(t *testing.T) {
	p := seeded(params(1024, 0, 1000, 256), 5)
	count := make([]int, 4)
	for pos := range 4000 {
		got := choiceOf(t, p, four(), nil, pos, nil)
		if want := wordChoice(p, four(), nil, pos, nil); got != want {
			t.Fatalf("P10.3: at %d: %d, want %d", pos, got, want)
		}
		count[got]++
	}
	sum := float64(weightOf(chancesOf(t, p, four(), nil, nil)))
	for _, c := range chancesOf(t, p, four(), nil, nil) {
		if share := float64(c.Weight) / sum; math.Abs(float64(count[c.Token])/4000-share) > 0.03 {
			t.Errorf("P10.3: token %d is chosen %d times of 4000, its share is %f", c.Token, count[c.Token], share)
		}
	}
}

// Whoever asks, in whatever order and however often, is told the same.
func TestChooseInAnyOrder(t *testing.T) {
	s := testaid.Source(112)
	var asks []ask
	var first []int
	for range 300 {
		a := someAsk(&s)
		asks = append(asks, a)
		first = append(first, choiceOf(t, a.p, a.logits, a.seen, a.pos, a.allow))
	}
	for i, a := range slices.Backward(asks) {
		if got := choiceOf(t, a.p, a.logits, a.seen, a.pos, a.allow); got != first[i] {
			t.Errorf("P10.3: Choose(%v, %v, %v, %d, %v) = %d, at first %d", a.p, a.logits, a.seen, a.pos, a.allow, got, first[i])
		}
	}
}

func TestChooseOfVeryMany(t *testing.T) {
	const n = 200000
	alike := make([]int64, n)
	p := seeded(params(256, 0, 1000, 256), 3)
	for pos := range 3 {
		if got, want := choiceOf(t, p, alike, make([]int, n), pos, nil), byDraw(3, pos, n); got != want {
			t.Errorf("P10.3: of %d alike logits at %d: %d, want %d", n, pos, got, want)
		}
	}
	if l := chancesOf(t, p, alike, nil, nil); len(l) != n || l[n-1] != (api.Chance{Token: n - 1, Weight: 65536}) {
		t.Errorf("P10.2: %d alike logits leave %d", n, len(l))
	}
}
