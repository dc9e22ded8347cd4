package heads_test

import (
	"iter"
	"math"
	"slices"
	"testing"

	"augur/heads"
	"augur/testaid"
)

// ranks: the tokens by their ranks, as the chapter's words say it: a token's rank is how many stand ahead of it.
func ranks(logits []int64) []int {
	out := make([]int, len(logits))
	for token, logit := range logits {
		rank := 0
		for other, its := range logits {
			if its > logit || its == logit && other < token {
				rank++
			}
		}
		out[rank] = token
	}
	return out
}

// goneThrough: all that an iterator gives.
func goneThrough(t *testing.T, logits []int64, seq iter.Seq2[int, int64]) []int {
	t.Helper()
	var tokens []int
	for token, logit := range seq {
		if token < 0 || token >= len(logits) || logit != logits[token] {
			t.Fatalf("P9.3: Ranked(%v) gives the token %d with the logit %d", short(logits), token, logit)
		}
		tokens = append(tokens, token)
	}
	return tokens
}

// short: so much of a list as a message may hold.
func short(logits []int64) []int64 { return logits[:min(len(logits), 20)] }

// lists: logits of many kinds: none, one, alike ones, ends, rising, falling, drawn with few and with many values.
func lists() [][]int64 {
	all := [][]int64{
		nil, {}, {0}, {-5}, {math.MinInt64}, {math.MaxInt64},
		{5, 9, 9, -3}, {math.MinInt64, math.MaxInt64}, {math.MaxInt64, math.MinInt64},
		{math.MinInt64, math.MinInt64}, {math.MaxInt64, math.MaxInt64, math.MaxInt64},
		{-1, math.MaxInt64, 0, math.MinInt64, 1, math.MaxInt64, math.MinInt64 + 1, math.MinInt64, math.MaxInt64 - 1},
		{1 << 32, 1, 1 << 33, 0, -1 << 32, -1}, {1 << 53, 1<<53 + 1, 1<<53 + 2, 1<<53 + 1},
		slices.Repeat([]int64{7}, 100), slices.Repeat([]int64{math.MinInt64, 0, math.MaxInt64}, 50),
	}
	s := testaid.Source(96)
	for n := 1; n < 40; n += 3 {
		rising, falling, few, many := make([]int64, n), make([]int64, n), make([]int64, n), make([]int64, n)
		for i := range n {
			rising[i], falling[i], few[i], many[i] = int64(i), int64(-i), int64(s.Below(3)), int64(s.Next()<<17^s.Next())
		}
		all = append(all, rising, falling, few, many)
	}
	return all
}

func TestRankedExamples(t *testing.T) {
	logits := []int64{5, 9, 9, -3}
	if got := goneThrough(t, logits, heads.Ranked(logits)); !slices.Equal(got, []int{1, 2, 0, 3}) {
		t.Errorf("P9.3: Ranked(%v) gives %v", logits, got)
	}
	for k, want := range map[int][]int{2: {1, 2}, 9: {1, 2, 0, 3}, 0: nil} {
		if got := heads.Top(logits, k); !slices.Equal(got, want) {
			t.Errorf("P9.4: Top(%v, %d) = %v, want %v", logits, k, got, want)
		}
	}
	if got := heads.Top(nil, 3); len(got) != 0 {
		t.Errorf("P9.4: Top(none, 3) = %v", got)
	}
	ends := []int64{math.MinInt64, math.MaxInt64}
	if got := goneThrough(t, ends, heads.Ranked(ends)); !slices.Equal(got, []int{1, 0}) {
		t.Errorf("P9.3: Ranked of the least and the greatest gives %v", got)
	}
	if got := heads.Top(ends, 1); !slices.Equal(got, []int{1}) {
		t.Errorf("P9.4: Top(the least and the greatest, 1) = %v", got)
	}
}

func TestRanked(t *testing.T) {
	for _, logits := range lists() {
		if got, want := goneThrough(t, logits, heads.Ranked(logits)), ranks(logits); !slices.Equal(got, want) {
			t.Errorf("P9.3: Ranked(%v) gives %v, want %v", logits, got, want)
		}
	}
}

func TestTop(t *testing.T) {
	for _, logits := range lists() {
		want := ranks(logits)
		for _, k := range []int{math.MinInt, -1 << 40, -2, -1, 0} {
			if got := heads.Top(logits, k); len(got) != 0 {
				t.Errorf("P9.4: Top(%v, %d) = %v", logits, k, got)
			}
		}
		for k := range len(logits) + 1 {
			if got := heads.Top(logits, k); !slices.Equal(got, want[:k]) {
				t.Errorf("P9.4: Top(%v, %d) = %v, want %v", logits, k, got, want[:k])
			}
		}
		for _, k := range []int{len(logits) + 1, 1 << 40, math.MaxInt - 1, math.MaxInt} {
			if got := heads.Top(logits, k); !slices.Equal(got, want) {
				t.Errorf("P9.4: Top(%v, %d) = %v, want %v", logits, k, got, want)
			}
		}
	}
}

// The chapter's section 'What follows'.
func TestOrderFollows(t *testing.T) {
	for _, logits := range lists() {
		got := goneThrough(t, logits, heads.Ranked(logits))
		seen := make([]int, len(logits))
		for i, token := range got {
			seen[token]++
			if i == 0 {
				continue
			}
			ahead := got[i-1]
			if logits[ahead] < logits[token] || logits[ahead] == logits[token] && ahead >= token {
				t.Errorf("P9.3: Ranked(%v) gives %d ahead of %d", logits, ahead, token)
			}
		}
		for token, n := range seen {
			if n != 1 {
				t.Errorf("P9.3: Ranked(%v) gives the token %d %d times", logits, token, n)
			}
		}
		for k := -1; k < len(logits)+2; k++ {
			less, more := heads.Top(logits, k), heads.Top(logits, k+1)
			if len(less) > len(more) || !slices.Equal(less, more[:len(less)]) {
				t.Errorf("P9.4: Top(%v, %d) = %v, and of one more %v", logits, k, less, more)
			}
		}
		if len(logits) > 0 && logits[heads.Top(logits, 1)[0]] != slices.Max(logits) {
			t.Errorf("P9.4: Top(%v, 1) = %v", logits, heads.Top(logits, 1))
		}
	}
}

func TestOrderOfShiftedLogits(t *testing.T) {
	for _, logits := range lists() {
		if len(logits) == 0 {
			continue
		}
		// The furthest that all can be moved down and up with none wrapping round, and some way between.
		down, up := math.MinInt64-min(slices.Min(logits), 0), math.MaxInt64-max(slices.Max(logits), 0)
		for _, by := range []int64{down, down / 2, down / 1000, 0, up / 1000, up / 2, up} {
			moved := slices.Clone(logits)
			for i := range moved {
				moved[i] += by
			}
			if got, want := heads.Top(moved, len(moved)), heads.Top(logits, len(logits)); !slices.Equal(got, want) {
				t.Errorf("P9.4: with %d added, Top(%v, all) = %v, want %v", by, logits, got, want)
			}
		}
	}
}

// Any length may be given, that of no vocabulary too.
func TestLongLists(t *testing.T) {
	s := testaid.Source(97)
	const n = 1 << 18
	alike, drawn := make([]int64, n), make([]int64, n)
	for i := range drawn {
		drawn[i] = int64(s.Below(n/4) - n/8)
	}
	if got := goneThrough(t, alike, heads.Ranked(alike)); len(got) != n || !slices.IsSorted(got) || got[0] != 0 || got[n-1] != n-1 {
		t.Errorf("P9.3: Ranked of %d alike logits gives %d tokens, not in their order", n, len(got))
	}
	got := goneThrough(t, drawn, heads.Ranked(drawn))
	if len(got) != n {
		t.Fatalf("P9.3: Ranked of %d logits gives %d tokens", n, len(got))
	}
	for i, token := range got[1:] {
		ahead := got[i]
		if drawn[ahead] < drawn[token] || drawn[ahead] == drawn[token] && ahead >= token {
			t.Fatalf("P9.3: Ranked of many logits gives %d ahead of %d", ahead, token)
		}
	}
	if top := heads.Top(drawn, 1000); !slices.Equal(top, got[:1000]) {
		t.Errorf("P9.4: Top(many, 1000) is not the beginning of their order")
	}
}

// left: what is given to one who stops once they have so many, and whether they were given more.
func left(seq iter.Seq2[int, int64], n int) (tokens []int, more bool) {
	seq(func(token int, _ int64) bool {
		more = more || len(tokens) == n
		tokens = append(tokens, token)
		return len(tokens) < n
	})
	return tokens, more
}

func TestRankedLeftEarly(t *testing.T) {
	for _, logits := range lists() {
		want := ranks(logits)
		seq := heads.Ranked(logits)
		for n := 1; n <= len(logits); n++ {
			if got, more := left(seq, n); more || !slices.Equal(got, want[:n]) {
				t.Errorf("P9.3: Ranked(%v), left at %d, gives %v, want %v", logits, n, got, want[:n])
			}
			given := 0
			for range seq {
				if given++; given == n {
					break
				}
			}
			if given != n {
				t.Errorf("P9.3: Ranked(%v), ranged over and left at %d, gives %d tokens", logits, n, given)
			}
		}
		if got := goneThrough(t, logits, seq); !slices.Equal(got, want) {
			t.Errorf("P9.3: Ranked(%v), once it was left early, gives %v, want %v", logits, got, want)
		}
	}
}

func TestRankedAnew(t *testing.T) {
	for _, logits := range lists() {
		want := ranks(logits)
		seq := heads.Ranked(logits)
		for range 3 {
			if got := goneThrough(t, logits, seq); !slices.Equal(got, want) {
				t.Errorf("P9.3: Ranked(%v), gone through again, gives %v, want %v", logits, got, want)
			}
		}
	}
}

// Two who go through one iterator at the same time don't see each other.
func TestRankedWithin(t *testing.T) {
	for _, logits := range lists() {
		want := ranks(logits)
		seq := heads.Ranked(logits)
		rank := 0
		for token := range seq {
			if token != want[rank] {
				t.Errorf("P9.3: Ranked(%v), gone through within, gives %d at %d, want %d", logits, token, rank, want[rank])
			}
			rank++
			if got := goneThrough(t, logits, seq); !slices.Equal(got, want) {
				t.Errorf("P9.3: Ranked(%v), gone through within another, gives %v, want %v", logits, got, want)
			}
		}
		if rank != len(logits) {
			t.Errorf("P9.3: Ranked(%v), gone through within, gives %d tokens", logits, rank)
		}
	}
}
