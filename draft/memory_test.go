package draft_test

import (
	"reflect"
	"slices"
	"testing"

	"augur/api"
	"augur/draft"
	"augur/testaid"
)

var mark = api.RawNode{Parent: 77, Token: 78}

// stays: the call leaves a list and the room behind it as they are; then they are written over.
func stays[T comparable](t *testing.T, list []T, over T, call func()) {
	t.Helper()
	same := testaid.Guard(list)
	call()
	if !same() {
		t.Fatalf("P25.6: what was handed in was changed, or the room behind it: %v", list[:cap(list)])
	}
	testaid.Overwrite(list, over)
}

// What is handed to Propose stays, and the room behind it; in a call that is refused too.
func TestArgumentsStay(t *testing.T) {
	s := testaid.Source(2550)
	for _, c := range small() {
		w := s.Lively(c)
		m := made(t, w)
		for range 5 {
			text := testaid.Roomy(drawnText(&s, c, 1+s.Below(2*c.Len)), 77)
			widths := testaid.Roomy(drawnWidths(&s, c, s.Below(6)), 77)
			wrong := testaid.Roomy([]int{1, c.Vocab, 0}, 77)
			kept := []func() bool{testaid.Guard(text), testaid.Guard(widths), testaid.Guard(wrong)}
			asWords(t, m, w, text, widths...)
			refused(t, m, wrong, api.ErrToken, widths...)
			refused(t, m, text[:0], api.ErrEmpty, widths...)
			refused(t, nil, text, api.ErrArg, widths...)
			for i, is := range kept {
				if !is() {
					t.Fatalf("P25.6: %v: argument %d was changed, or the room behind it", c, i)
				}
			}
		}
		if !reflect.DeepEqual(m.Weights(), made(t, w).Weights()) {
			t.Errorf("P25.6: %v: the model was changed", c)
		}
	}
}

// A raw tree written into or appended to changes no other one, no later one, no argument and not the model.
func TestTreesAreApart(t *testing.T) {
	s := testaid.Source(2551)
	for _, c := range small() {
		w := s.Lively(c)
		m := made(t, w)
		text, widths := testaid.Roomy(drawnText(&s, c, c.Len), 77), testaid.Roomy([]int{3, 2, 1}, 77)
		once, again := proposed(t, m, text, widths...), proposed(t, m, text, widths...)
		kept := []func() bool{testaid.Guard(again), testaid.Guard(text), testaid.Guard(widths)}
		testaid.Spoil(once, mark)
		for i, is := range kept {
			if !is() {
				t.Fatalf("P25.6: %v: writing over an answer changed number %d of another answer, the tokens, the widths", c, i)
			}
		}
		testaid.Spoil(again, mark)
		asWords(t, m, w, text, widths...)
		testaid.Overwrite(text, 1)
		testaid.Overwrite(widths, 1)
		asWords(t, m, w, text, widths...)
	}
}

// A list's own numbers are all that is looked at: those behind its end are not.
func TestRoomIsNotLookedAt(t *testing.T) {
	s := testaid.Source(2552)
	for _, c := range small() {
		w := s.Lively(c)
		m := made(t, w)
		text, widths := append(drawnText(&s, c, 3), -1, c.Vocab), []int{2, 1, -1, 5}
		asWords(t, m, w, text[:3], widths[:2]...)
		asWords(t, m, w, text[:3], widths[:0]...)
		refused(t, m, text[:0], api.ErrEmpty, widths[:2]...)
		refused(t, m, text[:4], api.ErrToken, widths[:2]...)
		refused(t, m, text[:3], api.ErrArg, widths[:3]...)
	}
}

// What was asked before, of this model or another, is not seen.
func TestOrderIsNotSeen(t *testing.T) {
	s := testaid.Source(2553)
	c := measures()[4]
	w, other := s.Lively(c), s.Lively(c)
	m, n := made(t, w), made(t, other)
	for range 10 {
		text, widths := drawnText(&s, c, 1+s.Below(12)), drawnWidths(&s, c, s.Below(5))
		asWords(t, m, w, text, widths...)
		asWords(t, n, other, text, widths...)
		refused(t, m, text, api.ErrArg, -1)
		refused(t, n, nil, api.ErrEmpty, widths...)
		asWords(t, m, w, text, widths...)
	}
}

// Widths one by one, and as a list that is nil or has no elements, are the same.
func TestHowWidthsAreHandedIn(t *testing.T) {
	m := ring(t)
	for _, raw := range [][]api.RawNode{proposed(t, m, []int{1}), proposed(t, m, []int{1}, nil...), proposed(t, m, []int{1}, []int{}...)} {
		if len(raw) != 0 {
			t.Errorf("P25.1: without widths: %v", raw)
		}
	}
	if !slices.Equal(proposed(t, m, []int{1}, []int{2, 1}...), proposed(t, m, []int{1}, 2, 1)) {
		t.Error("P25.1: a list of widths is not the same as the widths")
	}
}

// Whatever is written over what a drafter was handed and has answered, everything goes on as the words say.
func TestNothingShared(t *testing.T) {
	s := testaid.Source(2554)
	for range 40 {
		p := newPlay(t, &s)
		widths := testaid.Roomy(p.widths, 1)
		stays(t, widths, 3, func() { p.d = newDrafter(t, p.under, p.guesser, widths...) })
		for range 40 {
			if s.Below(4) == 0 && len(p.under.Live()) < api.MaxLive {
				a := p.Ask()
				a.Proposer = api.PRaw
				id, _ := p.plain.Submit(a)
				p.own[id] = api.Ask{Prompt: slices.Clone(a.Prompt)}
				p.asked++
				a.Prompt = testaid.Roomy(a.Prompt, 1)
				stays(t, a.Prompt, 1, func() { submits(t, p.d, id, a) })
			}
			picks := testaid.Roomy(p.picks(), 1)
			stays(t, picks, 1, func() { p.step(picks...) })
			p.agree()
			for id := range p.asked {
				state, _ := p.d.Poll(id + 1)
				testaid.Spoil(state.Tokens, 99)
			}
		}
	}
}

// Reports that are written over change nothing; what was told stays, whatever is told later.
func TestReportsAreApart(t *testing.T) {
	d := newDrafter(t, ringEngine(t), ring(t), 1)
	submits(t, d, 1, greedily(9, 1))
	report, state := d.Step(1), api.State{}
	testaid.SpoilReport(report)
	polls(t, d, 1, api.Running, 2, 3)
	state, _ = d.Poll(1)
	report = d.Step(1)
	if !slices.Equal(state.Tokens, []int{2, 3}) {
		t.Errorf("P25.6: what was told is %v now", state.Tokens)
	}
	testaid.Spoil(state.Tokens, 99)
	polls(t, d, 1, api.Running, 2, 3, 1, 2)
	d.Step(1)
	if len(report.Did) != 1 || !slices.Equal(report.Did[0].Tokens, []int{1, 2}) {
		t.Errorf("P25.6: the report is %+v now", report)
	}
}

// R6: drafters over two engines know nothing of one another, though they have one model and one list of widths.
func TestTwoDrafters(t *testing.T) {
	m, widths := ring(t), []int{1, 1}
	run := func(beside *draft.Drafter) []api.Report {
		d := newDrafter(t, ringEngine(t), m, widths...)
		var out []api.Report
		for id := 1; id <= 3; id++ {
			submits(t, d, id, greedily(5, 1, 2, id))
			for range 3 {
				out = append(out, d.Step(1, 2, 3))
				beside.Submit(greedily(4, 3, 2, 1))
				beside.Step(1, 2, 3, 4)
			}
		}
		return out
	}
	if !slices.EqualFunc(run(nil), run(newDrafter(t, ringEngine(t), m, widths...)), testaid.SameReport) {
		t.Error("R6: beside another drafter another answer")
	}
}
