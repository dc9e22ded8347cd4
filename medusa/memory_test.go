package medusa_test

import (
	"reflect"
	"slices"
	"testing"

	"augur/api"
	"augur/medusa"
	"augur/testaid"
)

var mark = api.RawNode{Parent: 77, Token: 78}

// What is handed in stays, and the room behind it; in a call that is refused too.
func TestArgumentsStay(t *testing.T) {
	s := testaid.Source(192)
	for _, c := range measures() {
		w := s.Weights(c)
		m := newModel(t, w)
		for range 20 {
			hidden := testaid.Roomy(s.Narrow(c.Width), 77)
			widths := testaid.Roomy(someWidths(&s, s.Below(7), c.Vocab), 77)
			wrong := testaid.Roomy(append(slices.Clone(widths), -1), 77)
			kept := []func() bool{testaid.Guard(hidden), testaid.Guard(widths), testaid.Guard(wrong)}
			asWords(t, m, w, hidden, widths...)
			refused(t, m, hidden, api.ErrArg, wrong...)
			refused(t, m, hidden[:c.Width-1], api.ErrShape, widths...)
			refused(t, nil, hidden, api.ErrArg, widths...)
			for i, is := range kept {
				if !is() {
					t.Fatalf("P15.3: %v: argument %d was changed, or the room behind it", c, i)
				}
			}
		}
		if !reflect.DeepEqual(m.Weights(), newModel(t, w).Weights()) {
			t.Errorf("P15.3: %v: the model was changed", c)
		}
	}
}

// What was handed in may be written over behind the call, and so may what the model tells of its weights.
func TestNothingIsKept(t *testing.T) {
	s := testaid.Source(193)
	for _, c := range measures() {
		w := s.Weights(c)
		m := newModel(t, w)
		for range 20 {
			hidden, widths := s.Narrow(c.Width), someWidths(&s, s.Below(7), c.Vocab)
			raw := treeOf(t, m, hidden, widths...)
			want := proposed(w, hidden, widths)
			out := m.Weights()
			for i := range out.Medusa {
				testaid.Overwrite(out.Medusa[i].Data, 1)
			}
			testaid.Overwrite(hidden, 5)
			testaid.Overwrite(widths, 1)
			if !slices.Equal(raw, want) {
				t.Fatalf("P15.3: %v: the answer changed with what was handed in", c)
			}
			asWords(t, m, w, hidden, widths...)
		}
	}
}

// An answer written into or appended to changes no other answer, no later one, and not the model.
func TestAnswersAreApart(t *testing.T) {
	s := testaid.Source(194)
	for _, c := range measures() {
		w := s.Weights(c)
		m := newModel(t, w)
		for range 20 {
			hidden, widths := testaid.Roomy(s.Narrow(c.Width), 77), testaid.Roomy(someWidths(&s, s.Below(7), c.Vocab), 77)
			once, again := treeOf(t, m, hidden, widths...), treeOf(t, m, hidden, widths...)
			kept := []func() bool{testaid.Guard(again), testaid.Guard(hidden), testaid.Guard(widths)}
			_ = append(once, mark, mark)
			testaid.Overwrite(once, mark)
			for i, is := range kept {
				if !is() {
					t.Fatalf("P15.3: %v: writing over an answer changed number %d of another answer, the vector, the widths", c, i)
				}
			}
			asWords(t, m, w, hidden, widths...)
			testaid.Overwrite(again, mark)
			asWords(t, m, w, hidden, widths...)
		}
		if !reflect.DeepEqual(m.Weights(), newModel(t, w).Weights()) {
			t.Errorf("P15.3: %v: writing over answers changed the model", c)
		}
	}
}

// A list's own numbers are all that is looked at: those behind its end are not.
func TestRoomIsNotLookedAt(t *testing.T) {
	s := testaid.Source(195)
	for _, c := range measures() {
		w := s.Weights(c)
		m := newModel(t, w)
		hidden, widths := s.Narrow(c.Width+5), []int{2, 3, -1, 5}
		asWords(t, m, w, hidden[:c.Width], widths[:2]...)
		asWords(t, m, w, hidden[5:], widths[:0]...)
		refused(t, m, hidden[:c.Width-1], api.ErrShape, widths[:2]...)
		refused(t, m, hidden[:c.Width], api.ErrArg, widths[:3]...)
	}
}

// What was asked before, of this model or another, is not seen.
func TestOrderIsNotSeen(t *testing.T) {
	s := testaid.Source(196)
	c := measures()[4]
	w, other := s.Weights(c), s.Weights(c)
	m, n := newModel(t, w), newModel(t, other)
	for range 50 {
		hidden, widths := s.Narrow(c.Width), someWidths(&s, s.Below(7), c.Vocab)
		asWords(t, m, w, hidden, widths...)
		asWords(t, n, other, hidden, widths...)
		refused(t, m, hidden, api.ErrArg, -1)
		asWords(t, n, other, s.Narrow(c.Width), widths...)
		asWords(t, m, w, hidden, widths...)
	}
}

// Widths one by one, and as a list that is nil or has no elements, are the same.
func TestHowWidthsAreHandedIn(t *testing.T) {
	m := newModel(t, example())
	none := [][]api.RawNode{treeOf(t, m, oneNought()), treeOf(t, m, oneNought(), nil...), treeOf(t, m, oneNought(), []int{}...)}
	for _, raw := range none {
		if len(raw) != 0 {
			t.Errorf("P15.2: without widths: %v", raw)
		}
	}
	list, _ := medusa.Propose(m, oneNought(), []int{2, 1}...)
	single, _ := medusa.Propose(m, oneNought(), 2, 1)
	if !slices.Equal(list, single) || len(list) != 4 {
		t.Errorf("P15.2: %v and %v", list, single)
	}
}
