package pick_test

import (
	"math"
	"slices"
	"testing"

	"augur/api"
	"augur/fix"
)

// four: the logits of the chapter's examples.
func four() []int64 { return []int64{3000, 5000, 5000, -1000} }

// chance: one after the other: a token, its weight.
func chance(n ...int64) []api.Chance {
	var l []api.Chance
	for i := 0; i < len(n); i += 2 {
		l = append(l, api.Chance{Token: int(n[i]), Weight: n[i+1]})
	}
	return l
}

// told: Chances answers just this.
func told(t *testing.T, p api.Params, logits []int64, seen []int, allow []bool, want []api.Chance) {
	t.Helper()
	if got := chancesOf(t, p, logits, seen, allow); !slices.Equal(got, want) {
		t.Errorf("P10.2: Chances(%v, %v, %v, %v) = %v, want %v", p, logits, seen, allow, got, want)
	}
}

func TestChancesExamples(t *testing.T) {
	told(t, params(0, 0, 1000, 256), four(), nil, nil, chance(1, 65536))
	told(t, params(0, 0, 1000, 256), four(), nil, []bool{true, false, true, true}, chance(2, 65536))
	told(t, params(0, 0, 1000, 512), four(), []int{1}, nil, chance(2, 65536))
	told(t, params(0, 0, 1000, 256), four(), nil, []bool{false}, nil)
	told(t, params(256, 0, 1000, 256), four(), nil, nil, chance(1, 65536, 2, 65536, 0, 9295, 3, 187))
	told(t, params(256, 2, 1000, 256), four(), nil, nil, chance(1, 65536, 2, 65536))
	told(t, params(256, 0, 900, 256), four(), nil, nil, chance(1, 65536, 2, 65536))
	told(t, params(256, 0, 1, 256), four(), nil, nil, chance(1, 65536))
	told(t, params(16, 0, 1000, 256), four(), nil, nil, chance(1, 65536, 2, 65536))
}

// What a token's score is, as the choice of the greater one of two tells it: with Temp 0 the seen token 1 wins if its score is above token 0's.
func TestScoreAgainstOther(t *testing.T) {
	for _, c := range []struct {
		logit   int64
		penalty int
		score   int64
	}{
		{2500, 64, 10000}, {2500, 256, 2500}, {2500, 1024, 625}, {2500, 512, 1250}, {2501, 512, 1250}, {2503, 1024, 625},
		{1, 64, 4}, {1, 256, 1}, {1, 257, 0}, {1, 1024, 0}, {3, 1024, 0}, {7, 1023, 1},
		{0, 64, 0}, {0, 256, 0}, {0, 1024, 0},
		{-1, 64, 0}, {-2, 64, 0}, {-3, 64, -1}, {-6, 64, -1}, {-7, 64, -2}, {-1, 128, 0}, {-3, 128, -1}, {-1, 256, -1}, {-1, 1024, -4}, {-2500, 64, -625}, {-2500, 256, -2500}, {-2500, 1024, -10000},
		{1 << 24, 1024, 1 << 22}, {1<<24 + 1, 1024, 1 << 22}, {math.MaxInt64, 1024, 1 << 22}, {1<<24 + 4, 256, 1 << 24},
		{-(1 << 24), 64, -(1 << 22)}, {-(1 << 24) - 1, 64, -(1 << 22)}, {math.MinInt64, 64, -(1 << 22)}, {math.MinInt64, 256, -(1 << 24)},
	} {
		greedy := params(0, 0, 1000, c.penalty)
		seen := []int{1}
		told(t, greedy, []int64{c.score, c.logit}, seen, nil, chance(0, 65536))
		// A score at an end of what is clamped cannot be told from those beyond it.
		if c.score > -(1 << 24) {
			told(t, greedy, []int64{c.score - 1, c.logit}, seen, nil, chance(1, 65536))
		}
	}
}

// Scores of seen tokens may lie beyond Wide: they are not clamped again.
func TestScoreBeyondWide(t *testing.T) {
	told(t, params(0, 0, 1000, 64), []int64{1 << 24, 1<<24 - 3, 1<<24 - 2}, []int{1, 2}, nil, chance(2, 65536))
	told(t, params(0, 0, 1000, 1024), []int64{-(1 << 24) + 1, -(1 << 24), -(1 << 24) + 2}, []int{0, 1, 2}, nil, chance(2, 65536))
	told(t, params(0, 0, 1000, 64), []int64{1 << 24, 1<<22 + 1}, []int{1}, nil, chance(1, 65536))
	told(t, params(0, 0, 1000, 1024), []int64{-(1 << 24), -(1 << 22) - 1}, []int{1}, nil, chance(0, 65536))
	told(t, params(4096, 0, 1000, 1024), []int64{-(1 << 22) - 1, -(1 << 24)}, []int{0}, nil, chance(1, 65536, 0, fix.Exp(-16)))
	told(t, params(4096, 0, 1000, 64), []int64{1<<22 + 1, 1 << 24}, []int{0}, nil, chance(0, 65536, 1, fix.Exp(-16)))
}

func TestClamped(t *testing.T) {
	hot := params(256, 0, 1000, 256)
	told(t, hot, []int64{1 << 24, 1<<24 + 1, 1 << 60, math.MaxInt64}, nil, nil, chance(0, 65536, 1, 65536, 2, 65536, 3, 65536))
	told(t, hot, []int64{-(1 << 24), -(1 << 24) - 1, -(1 << 60), math.MinInt64}, nil, nil, chance(0, 65536, 1, 65536, 2, 65536, 3, 65536))
	told(t, hot, []int64{1<<24 - 1, 1 << 24, 1<<24 + 1}, nil, nil, chance(1, 65536, 2, 65536, 0, fix.Exp(-64)))
	told(t, hot, []int64{-(1 << 24) - 1, -(1 << 24), -(1 << 24) + 1}, nil, nil, chance(2, 65536, 0, fix.Exp(-64), 1, fix.Exp(-64)))
	told(t, params(4096, 0, 1000, 1024), []int64{math.MinInt64, math.MaxInt64}, []int{0, 1}, nil, chance(1, 65536))
	told(t, params(1, 0, 1000, 64), []int64{math.MinInt64, math.MaxInt64}, []int{0, 1}, nil, chance(1, 65536))
}

func TestPenaltyOfManySigns(t *testing.T) {
	logits := []int64{400, 100, 0, -100, -400}
	all := []int{0, 1, 2, 3, 4}
	weights := func(scores ...int64) []api.Chance {
		var l []api.Chance
		for token, s := range scores {
			l = append(l, api.Chance{Token: token, Weight: fix.Exp((s - scores[0]) * 64)})
		}
		return l
	}
	told(t, params(256, 0, 1000, 64), logits, all, nil, weights(1600, 400, 0, -25, -100))
	told(t, params(256, 0, 1000, 256), logits, all, nil, weights(400, 100, 0, -100, -400))
	told(t, params(256, 0, 1000, 1024), logits, all, nil, weights(100, 25, 0, -400, -1600))
}

func TestNoLogitsAndOne(t *testing.T) {
	for _, temp := range []int{0, 1, 256, 4096} {
		for _, topK := range []int{0, 1, 2, 64} {
			for _, topP := range []int{1, 500, 1000} {
				p := params(temp, topK, topP, 300)
				told(t, p, nil, []int{0, 1}, nil, nil)
				told(t, p, []int64{}, nil, []bool{true}, nil)
				for _, logit := range []int64{0, 7, -7, math.MaxInt64, math.MinInt64} {
					told(t, p, []int64{logit}, nil, nil, chance(0, 65536))
					told(t, p, []int64{logit}, []int{0}, []bool{true, false}, chance(0, 65536))
					told(t, p, []int64{logit}, []int{0}, []bool{false, true}, nil)
				}
			}
		}
	}
}

func TestAllow(t *testing.T) {
	hot := params(256, 0, 1000, 256)
	for _, c := range []struct {
		allow []bool
		want  []api.Chance
	}{
		{nil, chance(1, 65536, 2, 65536, 0, 9295, 3, 187)},
		{[]bool{}, chance(1, 65536, 2, 65536, 0, 9295, 3, 187)},
		{[]bool{true, true, true, true}, chance(1, 65536, 2, 65536, 0, 9295, 3, 187)},
		{[]bool{true, true, true, true, false, true}, chance(1, 65536, 2, 65536, 0, 9295, 3, 187)},
		{[]bool{true}, chance(0, 65536)},
		{[]bool{true, true}, chance(1, 65536, 0, 9295)},
		{[]bool{true, true, true}, chance(1, 65536, 2, 65536, 0, 9295)},
		{[]bool{true, false, false, true}, chance(0, 65536, 3, 1318)},
		{[]bool{false, false, false, true, true}, chance(3, 65536)},
		{[]bool{false}, nil},
		{[]bool{false, false, false, false}, nil},
		{[]bool{false, false, false, false, true, true}, nil},
	} {
		told(t, hot, four(), nil, c.allow, c.want)
		greedy := c.want
		if len(greedy) > 0 {
			greedy = chance(int64(greedy[0].Token), 65536)
		}
		told(t, params(0, 0, 1000, 256), four(), nil, c.allow, greedy)
	}
}

// Thinning out begins with what is allowed: the best token is the best of those, TopK and TopP count those alone.
func TestAllowComesFirst(t *testing.T) {
	logits := []int64{9000, 5000, 5000, 8000, 4000}
	allow := []bool{false, true, true, false, true}
	told(t, params(256, 1, 1000, 256), logits, nil, allow, chance(1, 65536))
	told(t, params(256, 2, 1000, 256), logits, nil, allow, chance(1, 65536, 2, 65536))
	told(t, params(256, 3, 1000, 256), logits, nil, allow, chance(1, 65536, 2, 65536, 4, fix.Exp(-64000)))
	told(t, params(256, 0, 400, 256), logits, nil, allow, chance(1, 65536))
	told(t, params(256, 0, 500, 256), logits, nil, allow, chance(1, 65536, 2, 65536))
}

func TestSeen(t *testing.T) {
	p := params(0, 0, 1000, 512)
	told(t, p, four(), []int{1, 1, 1, 1}, nil, chance(2, 65536))
	told(t, p, four(), []int{1, 2}, nil, chance(0, 65536))
	told(t, p, four(), []int{0, 1, 2, 3}, nil, chance(1, 65536))
	told(t, p, four(), []int{-1, 4, 5, math.MaxInt, math.MinInt}, nil, chance(1, 65536))
	told(t, p, four(), []int{-1, 4, 1, math.MaxInt}, nil, chance(2, 65536))
	told(t, params(256, 0, 1000, 1024), []int64{2000, 1000}, []int{0, 0, 0}, nil, chance(1, 65536, 0, fix.Exp(-32000)))
	told(t, params(256, 0, 1000, 1024), []int64{-100, -1000}, []int{0, 0, 0}, nil, chance(0, 65536, 1, fix.Exp(-38400)))
}

func TestTopK(t *testing.T) {
	logits := []int64{10, 50, 40, 50, 20, 30}
	order := []int64{1, 3, 2, 5, 4, 0}
	for topK := range 9 {
		n := topK
		if n == 0 || n > len(order) {
			n = len(order)
		}
		var want []api.Chance
		for _, token := range order[:n] {
			want = append(want, api.Chance{Token: int(token), Weight: fix.Exp((logits[token] - 50) * 64)})
		}
		told(t, params(256, topK, 1000, 256), logits, nil, nil, want)
	}
}

// Of more tokens than TopK may be, 0 alone takes all.
func TestTopKOfMany(t *testing.T) {
	for _, n := range []int{63, 64, 65, 200} {
		logits := make([]int64, n)
		for topK, want := range map[int]int{0: n, 63: 63, 64: min(n, 64)} {
			l := chancesOf(t, params(256, topK, 1000, 256), logits, nil, nil)
			if len(l) != want {
				t.Errorf("P10.2: TopK %d of %d alike logits leaves %d", topK, n, len(l))
			}
			for i, c := range l {
				if c.Token != i || c.Weight != 65536 {
					t.Errorf("P10.2: TopK %d of %d alike logits: number %d is %v", topK, n, i, c)
				}
			}
		}
	}
}

// TopK is ahead of TopP: what TopK took away counts for nothing.
func TestTopKAheadOfTopP(t *testing.T) {
	alike := []int64{5, 5, 5, 5}
	told(t, params(256, 2, 500, 256), alike, nil, nil, chance(0, 65536))
	told(t, params(256, 2, 501, 256), alike, nil, nil, chance(0, 65536, 1, 65536))
	told(t, params(256, 3, 501, 256), alike, nil, nil, chance(0, 65536, 1, 65536))
	told(t, params(256, 0, 500, 256), alike, nil, nil, chance(0, 65536, 1, 65536))
}

// "At least": a first part that is just TopP of the whole is enough.
func TestTopPEdges(t *testing.T) {
	for n := 1; n <= 10; n++ {
		alike := make([]int64, n)
		for topP := 1; topP <= 1000; topP++ {
			want := (topP*n + 999) / 1000
			if l := chancesOf(t, params(256, 0, topP, 256), alike, nil, nil); len(l) != want {
				t.Errorf("P10.2: TopP %d of %d alike logits leaves %d, want %d", topP, n, len(l), want)
			}
		}
	}
	told(t, params(256, 0, 932, 256), four(), nil, nil, chance(1, 65536, 2, 65536))
	told(t, params(256, 0, 933, 256), four(), nil, nil, chance(1, 65536, 2, 65536, 0, 9295))
	told(t, params(256, 0, 998, 256), four(), nil, nil, chance(1, 65536, 2, 65536, 0, 9295))
	told(t, params(256, 0, 999, 256), four(), nil, nil, chance(1, 65536, 2, 65536, 0, 9295, 3, 187))
}

// None with the weight 0 remains, though TopP takes all; the least weight above 0 does.
func TestNoWeightOfNothing(t *testing.T) {
	least := int64(0)
	for fix.Exp((least-1)*64) > 0 {
		least--
	}
	logits := []int64{0, least, least - 1, -(1 << 24), least}
	told(t, params(256, 0, 1000, 256), logits, nil, nil, chance(0, 65536, 1, fix.Exp(least*64), 4, fix.Exp(least*64)))
}

// At Temp 1 one step of a score is 16384; a fraction goes to the lower number.
func TestTempEdges(t *testing.T) {
	logits := []int64{0, -1, -2, -63, -64, -65}
	told(t, params(1, 0, 1000, 256), logits, nil, nil, chance(0, 65536, 1, fix.Exp(-16384), 2, fix.Exp(-32768)))
	told(t, params(4096, 0, 1000, 256), logits[:3], nil, nil, chance(0, 65536, 1, 65532, 2, 65528))
	told(t, params(4095, 0, 1000, 256), logits[:3], nil, nil, chance(0, 65536, 1, fix.Exp(-5), 2, fix.Exp(-9)))
	told(t, params(257, 0, 1000, 256), logits[:3], nil, nil, chance(0, 65536, 1, fix.Exp(-64), 2, fix.Exp(-128)))
	told(t, params(255, 0, 1000, 256), logits[:3], nil, nil, chance(0, 65536, 1, fix.Exp(-65), 2, fix.Exp(-129)))
}

// Temp 0 is ahead of all else: neither TopK nor TopP takes more or less than the first one.
func TestTempZero(t *testing.T) {
	for _, topK := range []int{0, 1, 2, 64} {
		for _, topP := range []int{1, 500, 1000} {
			told(t, params(0, topK, topP, 256), four(), nil, nil, chance(1, 65536))
			told(t, params(0, topK, topP, 256), []int64{7, 7, 7}, nil, nil, chance(0, 65536))
			told(t, params(0, topK, topP, 256), []int64{7, 7, 7}, nil, []bool{false, true, true}, chance(1, 65536))
		}
	}
}

// The order hangs on the scores, not on the logits: alike scores of unlike logits go by their tokens.
func TestOrderOfScores(t *testing.T) {
	p := params(256, 0, 1000, 512)
	told(t, p, []int64{50, 100, 101, 49}, []int{1, 2}, nil, chance(0, 65536, 1, 65536, 2, 65536, 3, fix.Exp(-64)))
	told(t, p, []int64{-100, -50, -49, -101}, []int{1, 2}, nil, chance(2, 65536, 0, fix.Exp(-128), 1, fix.Exp(-128), 3, fix.Exp(-192)))
	told(t, p, []int64{30, 90, 40}, []int{1}, nil, chance(1, 65536, 2, fix.Exp(-320), 0, fix.Exp(-960)))
}

// A first part that lacks less than one weight of what TopP asks is still too little.
func TestTopPJustMissed(t *testing.T) {
	missed := 0
	for below := int64(1); below < 12000; below++ {
		weight := fix.Exp(-64 * below)
		for topP := 500; topP <= 1000; topP++ {
			if lack := int64(topP)*(65536+weight) - 65536*1000; lack > 0 && lack < 1000 {
				told(t, params(256, 0, topP, 256), []int64{0, -below}, nil, nil, chance(0, 65536, 1, weight))
				missed++
			} else if lack <= 0 && lack > -1000 {
				told(t, params(256, 0, topP, 256), []int64{0, -below}, nil, nil, chance(0, 65536))
				missed++
			}
		}
	}
	if missed < 100 {
		t.Errorf("only %d pairs of a weight and a TopP lie so near", missed)
	}
}
