package heads_test

import (
	"reflect"
	"slices"
	"testing"

	"augur/api"
	"augur/heads"
	"augur/testaid"
)

// apart: writing over one of the lists, its spare room too, changes no other.
func apart[T comparable](t *testing.T, what string, all [][]T, mark T) {
	t.Helper()
	for i, list := range all {
		var kept []func() bool
		for j, other := range all {
			if j != i {
				kept = append(kept, testaid.Guard(other))
			}
		}
		testaid.Overwrite(list, mark)
		for _, is := range kept {
			if !is() {
				t.Errorf("P9.5: %s: two lists share memory", what)
			}
		}
		testaid.Overwrite(list, *new(T))
	}
}

func cloneAll(all [][]int64) [][]int64 {
	var out [][]int64
	for _, list := range all {
		out = append(out, slices.Clone(list))
	}
	return out
}

func TestProductMemory(t *testing.T) {
	s := testaid.Source(98)
	for _, c := range measures() {
		w := s.Weights(c)
		m := newModel(t, w)
		hidden := testaid.Roomy(s.Narrow(c.Width), 77)
		first := slices.Clone(hidden)
		kept := testaid.Guard(hidden)
		all := append([][]int64{logitsOf(t, m, hidden), logitsOf(t, m, hidden)}, guessesOf(t, m, hidden)...)
		all = append(all, guessesOf(t, m, hidden)...)
		if !kept() {
			t.Errorf("P9.5: %v: Logits or Guesses changed the vector or its spare room", c)
		}
		want := cloneAll(all)
		testaid.Overwrite(hidden, 1)
		asWords(t, m, w, s.Narrow(c.Width))
		if !slices.EqualFunc(all, want, slices.Equal) {
			t.Errorf("P9.5: %v: an answer changed, once the vector was written over", c)
		}
		apart(t, "answers of Logits and Guesses", all, 12345)
		if !reflect.DeepEqual(m.Weights(), newModel(t, w).Weights()) {
			t.Errorf("P9.5: %v: writing over answers changed the model", c)
		}
		asWords(t, m, w, first)
	}
}

// The list of lists too is each answer's own.
func TestGuessesOuterMemory(t *testing.T) {
	s := testaid.Source(99)
	for _, c := range measures() {
		w := s.Weights(c)
		m := newModel(t, w)
		hidden := s.Narrow(c.Width)
		once, again := guessesOf(t, m, hidden), guessesOf(t, m, hidden)
		want := cloneAll(again)
		testaid.Overwrite(once, []int64{99})
		if !slices.EqualFunc(again, want, slices.Equal) {
			t.Errorf("P9.5: %v: writing over one answer of Guesses changed another", c)
		}
		asWords(t, m, w, hidden)
	}
}

func TestRefusedProductMemory(t *testing.T) {
	s := testaid.Source(100)
	for _, c := range measures() {
		w := s.Weights(c)
		m := newModel(t, w)
		for _, n := range []int{0, c.Width - 1, c.Width + 1} {
			hidden := testaid.Roomy(s.Narrow(n), 77)
			kept := testaid.Guard(hidden)
			refused(t, m, hidden, api.ErrShape)
			refused(t, nil, hidden, api.ErrArg)
			if !kept() {
				t.Errorf("P9.5: %v: a refused call changed the vector or its spare room", c)
			}
		}
		asWords(t, m, w, s.Narrow(c.Width))
	}
}

// A vector's own room is all that is looked at: what stands behind its end is not.
func TestRoomBehindTheVector(t *testing.T) {
	s := testaid.Source(101)
	for _, c := range measures() {
		m := newModel(t, s.Weights(c))
		long := s.Narrow(c.Width + 5)
		want := logitsOf(t, m, slices.Clone(long[:c.Width]))
		if got := logitsOf(t, m, long[:c.Width]); !slices.Equal(got, want) {
			t.Errorf("P9.5: %v: Logits of a vector with room behind it = %v, want %v", c, got, want)
		}
		refused(t, m, long[:c.Width-1], api.ErrShape)
	}
}

// Logits that are written over behind the call of Ranked are not seen, neither ahead of a going through, nor within one, nor between two.
func TestRankedKeepsNothing(t *testing.T) {
	for _, logits := range lists() {
		want := ranks(logits)
		given := testaid.Roomy(logits, 77)
		seq := heads.Ranked(given)
		testaid.Overwrite(given, -9)
		if got := goneThrough(t, logits, seq); !slices.Equal(got, want) {
			t.Errorf("P9.3: Ranked(%v), written over ahead of the going through, gives %v, want %v", logits, got, want)
		}
		for i := range given {
			given[i] = int64(i * i)
		}
		if got := goneThrough(t, logits, seq); !slices.Equal(got, want) {
			t.Errorf("P9.3: Ranked(%v), written over between two goings through, gives %v, want %v", logits, got, want)
		}
		var got []int
		for token, logit := range seq {
			if logit != logits[token] {
				t.Errorf("P9.3: Ranked(%v), written over within a going through, gives %d with %d", logits, token, logit)
			}
			got = append(got, token)
			testaid.Overwrite(given, int64(token))
		}
		if !slices.Equal(got, want) {
			t.Errorf("P9.3: Ranked(%v), written over within a going through, gives %v, want %v", logits, got, want)
		}
	}
}

func TestOrderMemory(t *testing.T) {
	for _, logits := range lists() {
		given := testaid.Roomy(logits, 77)
		kept := testaid.Guard(given)
		for range heads.Ranked(given) {
			if !kept() {
				t.Errorf("P9.5: Ranked(%v) changed the logits or their spare room", logits)
			}
		}
		var all [][]int
		for _, k := range []int{-1, 0, 1, 2, len(logits) - 1, len(logits), len(logits) + 1} {
			all = append(all, heads.Top(given, k), heads.Top(given, k))
		}
		if !kept() {
			t.Errorf("P9.5: Top(%v, ..) changed the logits or their spare room", logits)
		}
		var want [][]int
		for _, top := range all {
			want = append(want, slices.Clone(top))
		}
		testaid.Overwrite(given, 5)
		if !slices.EqualFunc(all, want, slices.Equal) {
			t.Errorf("P9.5: an answer of Top(%v, ..) changed, once the logits were written over", logits)
		}
		kept = testaid.Guard(given)
		apart(t, "answers of Top", all, -1)
		if !kept() {
			t.Errorf("P9.5: writing over an answer of Top(%v, ..) changed the logits", logits)
		}
	}
}

// Two iterators know nothing of one another, even over one list.
func TestTwoRanked(t *testing.T) {
	given := []int64{1, 2, 3}
	once := heads.Ranked(given)
	copy(given, []int64{3, 1, 2})
	again := heads.Ranked(given)
	copy(given, []int64{0, 0, 0})
	if got := goneThrough(t, []int64{1, 2, 3}, once); !slices.Equal(got, []int{2, 1, 0}) {
		t.Errorf("P9.3: the first Ranked gives %v", got)
	}
	if got := goneThrough(t, []int64{3, 1, 2}, again); !slices.Equal(got, []int{0, 2, 1}) {
		t.Errorf("P9.3: the second Ranked gives %v", got)
	}
}
