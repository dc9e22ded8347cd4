package pick_test

import (
	"slices"
	"testing"

	"augur/api"
	"augur/pick"
	"augur/testaid"
)

// roomy: the same, with spare room behind each list.
func (a ask) roomy() ask {
	a.logits = testaid.Roomy(a.logits, 1<<40)
	a.seen = testaid.Roomy(a.seen, 0)
	a.allow = testaid.Roomy(a.allow, true)
	return a
}

// guarded: tells whether the lists and the room behind them are as they were.
func (a ask) guarded() func() bool {
	logits, seen, allow := testaid.Guard(a.logits), testaid.Guard(a.seen), testaid.Guard(a.allow)
	return func() bool { return logits() && seen() && allow() }
}

func (a ask) clone() ask {
	a.logits, a.seen, a.allow = slices.Clone(a.logits), slices.Clone(a.seen), slices.Clone(a.allow)
	return a
}

func (a ask) overwrite() {
	testaid.Overwrite(a.logits, -3)
	testaid.Overwrite(a.seen, 1)
	testaid.Overwrite(a.allow, false)
}

func TestArgumentsStay(t *testing.T) {
	s := testaid.Source(120)
	for range 2000 {
		a := someAsk(&s).roomy()
		kept := a.guarded()
		chancesOf(t, a.p, a.logits, a.seen, a.allow)
		choiceOf(t, a.p, a.logits, a.seen, a.pos, a.allow)
		wrong := a.p
		wrong.TopP = 0
		pick.Chances(wrong, a.logits, a.seen, a.allow)
		pick.Choose(wrong, a.logits, a.seen, a.pos, a.allow)
		if !kept() {
			t.Errorf("P10.4: a call of %v changed what was handed in, or the room behind it", a)
		}
	}
}

// What stands behind a list's end is not looked at.
func TestRoomBehindIsNotSeen(t *testing.T) {
	s := testaid.Source(121)
	for range 500 {
		a := someAsk(&s)
		a.roomy().asWords(t)
	}
}

func TestNothingIsKept(t *testing.T) {
	s := testaid.Source(122)
	for range 500 {
		a := someAsk(&s).roomy()
		was := a.clone()
		l := chancesOf(t, a.p, a.logits, a.seen, a.allow)
		want := slices.Clone(l)
		a.overwrite()
		if !slices.Equal(l, want) {
			t.Errorf("P10.4: an answer changed from %v to %v, once what was handed in was written over", want, l)
		}
		was.asWords(t)
		a.asWords(t)
	}
}

func TestAnswersAreApart(t *testing.T) {
	s := testaid.Source(123)
	for range 500 {
		a := someAsk(&s)
		one, two := chancesOf(t, a.p, a.logits, a.seen, a.allow), chancesOf(t, a.p, a.logits, a.seen, a.allow)
		kept, other := a.guarded(), testaid.Guard(two)
		testaid.Overwrite(one, api.Chance{Token: 99, Weight: 99})
		if !kept() || !other() {
			t.Errorf("P10.4: writing over an answer changed another, or what was handed in")
		}
		a.asWords(t)
	}
}
