package pick_test

import (
	"math"
	"slices"
	"testing"

	"augur/api"
	"augur/testaid"
)

func TestFirstWeightIsOne(t *testing.T) {
	s := testaid.Source(113)
	for range 3000 {
		a := someAsk(&s)
		l := chancesOf(t, a.p, a.logits, a.seen, a.allow)
		last := int64(65536)
		for i, c := range l {
			if i == 0 && c.Weight != 65536 || c.Weight > last || c.Weight <= 0 {
				t.Errorf("P10.2: Chances(%v, %v, %v, %v) = %v", a.p, a.logits, a.seen, a.allow, l)
			}
			last = c.Weight
		}
	}
}

func TestChoiceIsAChance(t *testing.T) {
	s := testaid.Source(114)
	for range 3000 {
		a := someAsk(&s)
		got := choiceOf(t, a.p, a.logits, a.seen, a.pos, a.allow)
		l := chancesOf(t, a.p, a.logits, a.seen, a.allow)
		some := false
		for token := range a.logits {
			some = some || wordAllowed(token, a.allow)
		}
		if some != (len(l) > 0) {
			t.Errorf("P10.2: Chances(%v, %v, %v, %v) = %v", a.p, a.logits, a.seen, a.allow, l)
		}
		if some && !slices.ContainsFunc(l, func(c api.Chance) bool { return c.Token == got }) {
			t.Errorf("P10.3: %d is chosen, which is none of %v", got, l)
		}
		for _, c := range l {
			if !wordAllowed(c.Token, a.allow) {
				t.Errorf("P10.2: %v allows %d not, Chances = %v", a.allow, c.Token, l)
			}
		}
	}
}

func TestOneNumberAddedToAll(t *testing.T) {
	s := testaid.Source(115)
	for range 1000 {
		a := someAsk(&s)
		a.p.Penalty = 256
		for i := range a.logits {
			a.logits[i] = int64(s.Below(20000) - 10000)
		}
		for _, add := range []int64{1, -1, 77777, -77777, 1<<24 - 10000, 10000 - 1<<24} {
			more := slices.Clone(a.logits)
			for i := range more {
				more[i] += add
			}
			if got, want := chancesOf(t, a.p, more, a.seen, a.allow), chancesOf(t, a.p, a.logits, a.seen, a.allow); !slices.Equal(got, want) {
				t.Errorf("P10.2: with %d added to %v: %v, want %v", add, a.logits, got, want)
			}
			if got, want := choiceOf(t, a.p, more, a.seen, a.pos, a.allow), choiceOf(t, a.p, a.logits, a.seen, a.pos, a.allow); got != want {
				t.Errorf("P10.3: with %d added to %v: %d, want %d", add, a.logits, got, want)
			}
		}
	}
}

// alike: two lists of seen tokens change nothing for one another.
func alike(t *testing.T, a ask, other []int) {
	t.Helper()
	if got, want := chancesOf(t, a.p, a.logits, other, a.allow), chancesOf(t, a.p, a.logits, a.seen, a.allow); !slices.Equal(got, want) {
		t.Errorf("P10.2: seen %v: %v, seen %v: %v", other, got, a.seen, want)
	}
	if got, want := choiceOf(t, a.p, a.logits, other, a.pos, a.allow), choiceOf(t, a.p, a.logits, a.seen, a.pos, a.allow); got != want {
		t.Errorf("P10.3: seen %v: %d, seen %v: %d", other, got, a.seen, want)
	}
}

func TestSeenInAnyOrderAndNumber(t *testing.T) {
	s := testaid.Source(116)
	for range 1000 {
		a := someAsk(&s)
		back := slices.Clone(a.seen)
		slices.Reverse(back)
		sorted := slices.Clone(a.seen)
		slices.Sort(sorted)
		alike(t, a, back)
		alike(t, a, slices.Compact(sorted))
		alike(t, a, append(slices.Clone(a.seen), a.seen...))
		alike(t, a, append(slices.Clone(a.seen), -1, len(a.logits), math.MaxInt, math.MinInt))
		a.p.Penalty = 256
		alike(t, a, nil)
		alike(t, a, []int{0, 1, 2, 3, 4, 5, 6, 7})
	}
}

func TestNoChanceWithoutChance(t *testing.T) {
	s := testaid.Source(117)
	for range 500 {
		a := someAsk(&s)
		for _, p := range []api.Params{{Temp: 0, TopK: a.p.TopK, TopP: a.p.TopP, Penalty: a.p.Penalty}, {Temp: a.p.Temp, TopK: 1, TopP: a.p.TopP, Penalty: a.p.Penalty}} {
			want := choiceOf(t, p, a.logits, a.seen, 0, a.allow)
			for _, pos := range []int{1, 2, 77, -1, math.MaxInt, math.MinInt} {
				for _, seed := range []uint64{0, 1, s.Next(), math.MaxUint64} {
					if got := choiceOf(t, seeded(p, seed), a.logits, a.seen, pos, a.allow); got != want {
						t.Errorf("P10.3: %v of %v at %d: %d, at 0 with the seed 0: %d", seeded(p, seed), a.logits, pos, got, want)
					}
				}
			}
		}
	}
}

// begins: is the one list the beginning of the other?
func begins(l, of []api.Chance) bool { return len(l) <= len(of) && slices.Equal(l, of[:len(l)]) }

func TestGreaterTopPAddsAtTheEnd(t *testing.T) {
	s := testaid.Source(118)
	for range 300 {
		a := someAsk(&s)
		var last []api.Chance
		for _, topP := range []int{1, 2, 10, 100, 250, 499, 500, 501, 750, 900, 990, 998, 999, 1000} {
			a.p.TopP = topP
			l := chancesOf(t, a.p, a.logits, a.seen, a.allow)
			if !begins(last, l) {
				t.Errorf("P10.2: %v of %v: %v, with a lower TopP %v", a.p, a.logits, l, last)
			}
			last = l
		}
	}
}

// With TopP 1000 and weights above 0 each greater TopK shows what it adds; with a lower TopP it may add less.
func TestGreaterTopKAddsAtTheEnd(t *testing.T) {
	s := testaid.Source(119)
	for range 300 {
		a := someAsk(&s)
		var last []api.Chance
		for _, topK := range []int{1, 2, 3, 4, 7, 8, 9, 20, 62, 63, 64, 0} {
			a.p.TopK = topK
			l := chancesOf(t, a.p, a.logits, a.seen, a.allow)
			if !begins(last, l) {
				t.Errorf("P10.2: %v of %v: %v, with a lower TopK %v", a.p, a.logits, l, last)
			}
			last = l
		}
	}
}
