package ngram_test

import (
	"iter"
	"slices"
	"testing"

	"augur/ngram"
	"augur/testaid"
)

// Who stops early is given no more: the very next place is not told.
func TestPlacesLeftEarly(t *testing.T) {
	x := made(t, 2, 5, 5, 5, 5, 5, 5, 5)
	places := []int{6, 5, 4, 3, 2}
	for stop := 1; stop <= len(places); stop++ {
		var got []int
		x.Places()(func(q int) bool {
			got = append(got, q)
			return len(got) < stop
		})
		if !slices.Equal(got, places[:stop]) {
			t.Errorf("P13.3: left behind %d places: %v", stop, got)
		}
		has(t, x, 7, places...)
	}
}

// One answer of Places is gone through again and again, left early among that, and each going through begins anew.
func TestPlacesTwice(t *testing.T) {
	x := made(t, 1, 1, 2, 1, 3, 1)
	all := x.Places()
	for range 3 {
		if got := slices.Collect(all); !slices.Equal(got, []int{3, 1}) {
			t.Errorf("P13.3: gone through again: %v", got)
		}
		for q := range all {
			if q != 3 {
				t.Errorf("P13.3: begun with %d", q)
			}
			break
		}
	}
	// One within the other, and two by turns.
	var got []int
	for q := range all {
		for r := range all {
			got = append(got, 10*q+r)
		}
	}
	if !slices.Equal(got, []int{33, 31, 13, 11}) {
		t.Errorf("P13.3: one within the other: %v", got)
	}
	one, stopOne := iter.Pull(all)
	two, stopTwo := iter.Pull(all)
	defer stopOne()
	defer stopTwo()
	for _, want := range []int{3, 1, 0} {
		a, _ := one()
		if b, ok := two(); a != want || b != want || ok != (want > 0) {
			t.Errorf("P13.3: by turns: %d, %d, want %d", a, b, want)
		}
	}
}

// An answer of Places tells of the text as it is when a going through begins, not as it was at the call.
func TestPlacesOfAChangedText(t *testing.T) {
	x := made(t, 3)
	all := x.Places()
	gives := func(want ...int) {
		t.Helper()
		if got := slices.Collect(all); !slices.Equal(got, want) {
			t.Errorf("P13.3: the changed text's places are %v, want %v", got, want)
		}
	}
	gives()
	x.Append(1, 2)
	gives()
	x.Append(1)
	gives(1)
	x.Append(2, 1, 2)
	gives(4)
	x.Append(2)
	gives(6, 4, 2)
	x.Cut(4)
	gives(2)
	x.Cut(0)
	gives()
	x.Append(8, 8)
	gives(1)
}

// change: one of several ways to change a text; it tells the new one.
func change(s *testaid.Source, x *ngram.Index, text []int) []int {
	text = slices.Clone(text)
	for range 1 + s.Below(3) {
		if s.Below(2) == 0 {
			n := s.Below(len(text)+2) - 1
			x.Cut(n)
			text = text[:min(max(n, 0), len(text))]
		}
		more := someTokens(s, []int{0, 1, 2}, s.Below(6))
		x.Append(more...)
		text = append(text, more...)
	}
	return text
}

// Whatever is appended or cut while one goes through, at whichever place: what comes is of the text as it was at the beginning.
func TestTextChangedMeanwhile(t *testing.T) {
	s := testaid.Source(151)
	for range 1500 {
		most := 1 + s.Below(4)
		text := someTokens(&s, []int{0, 1, 2}[:1+s.Below(3)], 2+s.Below(14))
		x := made(t, most, text...)
		_, want := endRun(text, most)
		if len(want) == 0 {
			continue
		}
		var got []int
		from := s.Below(len(want))
		now := text
		for q := range x.Places() {
			if got = append(got, q); len(got) > from {
				now = change(&s, x, now)
			}
		}
		if !slices.Equal(got, want) {
			t.Fatalf("P13.3: most %d, %v, changed behind place %d of its places: %v, want %v", most, text, from, got, want)
		}
		asWords(t, x, most, now)
	}
}

// The plain ones: appended to, cut to nothing, cut and written anew, at the first place; the next going through is of the new text.
func TestTextChangedAtOnce(t *testing.T) {
	for _, c := range []struct {
		what   string
		change func(x *ngram.Index)
		then   []int
	}{
		{"appended to", func(x *ngram.Index) { x.Append(3, 3, 3) }, []int{9}},
		{"cut to nothing", func(x *ngram.Index) { x.Cut(0) }, nil},
		{"cut by one", func(x *ngram.Index) { x.Cut(x.Len() - 1) }, []int{3, 1}},
		{"cut and appended to", func(x *ngram.Index) { x.Cut(1); x.Append(4, 4, 4, 4, 4, 4) }, []int{6, 5, 4, 3}},
		{"cut and appended the same", func(x *ngram.Index) { x.Cut(0); x.Append(1, 2, 1, 2, 5, 1, 2) }, []int{4, 2}},
	} {
		x := made(t, 2, 1, 2, 1, 2, 5, 1, 2)
		var got []int
		all := x.Places()
		for q := range all {
			if got = append(got, q); len(got) == 1 {
				c.change(x)
			}
		}
		if !slices.Equal(got, []int{4, 2}) {
			t.Errorf("P13.3: %s meanwhile: %v, want 4 2", c.what, got)
		}
		if got = slices.Collect(all); !slices.Equal(got, c.then) {
			t.Errorf("P13.3: %s, gone through anew: %v, want %v", c.what, got, c.then)
		}
	}
}
