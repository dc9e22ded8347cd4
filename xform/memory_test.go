package xform_test

import (
	"reflect"
	"slices"
	"testing"

	"augur/api"
	"augur/testaid"
	"augur/xform"
)

// lists: all narrow lists of some points.
func lists(points []api.Point) [][]int8 {
	var all [][]int8
	for _, p := range points {
		all = append(all, p.Hidden)
		all = append(all, p.K...)
		all = append(all, p.V...)
	}
	return all
}

// apart: writing over one of the lists, its spare room too, changes no other.
func apart(t *testing.T, what string, all [][]int8) {
	t.Helper()
	for i, list := range all {
		var kept []func() bool
		for j, other := range all {
			if j != i {
				kept = append(kept, testaid.Guard(other))
			}
		}
		testaid.Overwrite(list, int8(i%100))
		for _, is := range kept {
			if !is() {
				t.Errorf("P8.3: %s: two lists share memory", what)
			}
		}
	}
}

func clonePoints(points []api.Point) []api.Point {
	var out []api.Point
	for _, p := range points {
		out = append(out, api.Point{Hidden: slices.Clone(p.Hidden), K: cloneVectors(p.K), V: cloneVectors(p.V)})
	}
	return out
}

func cloneVectors(vs [][]int8) [][]int8 {
	var out [][]int8
	for _, v := range vs {
		out = append(out, slices.Clone(v))
	}
	return out
}

func TestFullMemory(t *testing.T) {
	s := testaid.Source(831)
	for _, c := range measures()[:8] {
		m, words := drawnModel(t, &s, c)
		tokens := testaid.Roomy(drawnText(&s, c, min(c.Len, 6)), 77)
		kept := testaid.Guard(tokens)
		once, again := fully(t, m, tokens), fully(t, m, tokens)
		if !kept() {
			t.Errorf("P8.3: Full changed the tokens or their spare room")
		}
		want := clonePoints(once)
		testaid.Overwrite(tokens, 0)
		samePoints(t, "P8.3: Full's answer, once the tokens were written over", once, want)
		apart(t, "two answers of Full", append(lists(once), lists(again)...))
		if !reflect.DeepEqual(m.Weights(), words.w) {
			t.Errorf("P8.3: writing over Full's answers changed the model")
		}
	}
}

// The lists of lists too are each one's own.
func TestFullOuterMemory(t *testing.T) {
	s := testaid.Source(832)
	c := measures()[3]
	m, words := drawnModel(t, &s, c)
	tokens := drawnText(&s, c, 5)
	want := words.full(tokens)
	mark := []int8{99}
	for p := range tokens {
		for _, of := range []func(*api.Point) *[][]int8{
			func(at *api.Point) *[][]int8 { return &at.K },
			func(at *api.Point) *[][]int8 { return &at.V },
		} {
			points, again := fully(t, m, tokens), fully(t, m, tokens)
			testaid.Overwrite(*of(&points[p]), mark)
			*of(&points[p]) = *of(&want[p])
			samePoints(t, "P8.3: Full's answer, once one list of lists was written over", points, want)
			samePoints(t, "P8.3: another answer of Full", again, want)
		}
	}
}

// roomyItems: items with spare room behind their end and behind each See.
func roomyItems(items []api.Item) []api.Item {
	out := slices.Clone(items)
	for i := range out {
		out[i].See = testaid.Roomy(out[i].See, -77)
	}
	return testaid.Roomy(out, api.Item{Token: -77, Pos: -77, Slot: -77, See: []int{-77}})
}

// guardItems: the answered function tells whether the items, their See and all spare room still are as they were.
func guardItems(items []api.Item) func() bool {
	full := items[:cap(items)]
	was := slices.Clone(full)
	var kept []func() bool
	for i := range was {
		kept = append(kept, testaid.Guard(was[i].See))
	}
	return func() bool {
		for i, it := range full {
			w := was[i]
			if it.Token != w.Token || it.Pos != w.Pos || it.Slot != w.Slot || !sameList(it.See, w.See) || !kept[i]() {
				return false
			}
		}
		return true
	}
}

// sameList: the very same piece of memory?
func sameList(a, b []int) bool {
	if len(a) != len(b) || cap(a) != cap(b) {
		return false
	}
	return cap(a) == 0 || &a[:1][0] == &b[:1][0]
}

func TestPassMemory(t *testing.T) {
	s := testaid.Source(833)
	for _, c := range measures() {
		m, words, p := scene(t, &s, c)
		usable := []int{0, 1, 2, 3, 8, 9, 10, 11}
		for range 5 {
			items := roomyItems(drawnItems(&s, c, usable, 6))
			kept := guardItems(items)
			once := asWords(t, "items with spare room", m, words, p, items...)
			if !kept() {
				t.Errorf("P8.3: Pass changed its items, a See, or spare room")
			}
			want, on := cloneVectors(once), shelfOf(t, p)
			for _, item := range items {
				testaid.Overwrite(item.See, -1)
			}
			testaid.Overwrite(items, api.Item{Slot: -1})
			sameVectors(t, "P8.3: Pass's answer, once the items were written over", once, want)
			sameShelf(t, "P8.3: the slots, once the items were written over", shelfOf(t, p), on)
			again := passed(t, m, p, drawnItems(&s, c, usable, 6)...)
			sameVectors(t, "P8.3: Pass's answer, behind another pass", once, want)
			on = shelfOf(t, p)
			apart(t, "two answers of Pass", append(once, again...))
			sameShelf(t, "P8.3: the slots, once the answers were written over", shelfOf(t, p), on)
			if !reflect.DeepEqual(m.Weights(), words.w) {
				t.Errorf("P8.3: writing over Pass's answers changed the model")
			}
		}
	}
}

func TestRefusedPassMemory(t *testing.T) {
	s := testaid.Source(834)
	for _, c := range measures() {
		m, _, p := scene(t, &s, c)
		items := drawnItems(&s, c, []int{0, 1, 2, 3, 8, 9, 10, 11}, 6)
		items[5].See = []int{0, 11, 12, 0}
		items = roomyItems(items)
		kept := guardItems(items)
		notPassed(t, m, p, api.ErrItem, items...)
		notPassed(t, m, nil, api.ErrArg, items...)
		if !kept() {
			t.Errorf("P8.3: a refused Pass changed its items, a See, or spare room")
		}
		tokens := testaid.Roomy([]int{0, 1, c.Vocab}, 77)[:min(3, c.Len)]
		keptTokens := testaid.Guard(tokens)
		xform.Full(m, tokens)
		if !keptTokens() {
			t.Errorf("P8.3: Full changed the tokens or their spare room")
		}
	}
}

// One list may be the See of several items, in part too: nothing is written there.
func TestItemsMayShareASee(t *testing.T) {
	s := testaid.Source(835)
	for _, c := range measures() {
		m, words, p := scene(t, &s, c)
		see := []int{11, 0, 9, 0, 3, 8, 11}
		kept := testaid.Guard(see)
		asWords(t, "a See of several items", m, words, p,
			api.Item{Token: 1, Slot: 3, See: see}, api.Item{Slot: 8, See: see[:3]}, api.Item{Token: 1, Pos: c.Len - 1, Slot: 0, See: see[2:5]}, api.Item{Slot: 1, See: see[:0]})
		if !kept() {
			t.Errorf("P8.3: Pass changed a See that several items share")
		}
	}
}
