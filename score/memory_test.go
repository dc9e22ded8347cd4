package score_test

import (
	"reflect"
	"slices"
	"testing"

	"augur/api"
	"augur/score"
	"augur/testaid"
)

var spoilt = api.Mark{Rank: 77, Gap: 78}

// roomyTexts: each with spare room behind its end, and their list too; the second answer tells whether all still are as they were.
func roomyTexts(texts [][]int) ([][]int, func() bool) {
	var kept []func() bool
	roomy := make([][]int, len(texts))
	for i, text := range texts {
		roomy[i] = testaid.Roomy(text, 77)
		kept = append(kept, testaid.Guard(roomy[i]))
	}
	mark := testaid.Roomy([]int{79}, 80)
	kept = append(kept, testaid.Guard(mark))
	roomy = testaid.Roomy(roomy, mark)
	was := slices.Clone(roomy[:cap(roomy)])
	return roomy, func() bool {
		for _, is := range kept {
			if !is() {
				return false
			}
		}
		return slices.EqualFunc(roomy[:cap(roomy)], was, sameList)
	}
}

// sameList: the very same piece of memory?
func sameList(a, b []int) bool {
	if len(a) != len(b) || cap(a) != cap(b) {
		return false
	}
	return cap(a) == 0 || &a[:1][0] == &b[:1][0]
}

// What is handed in stays, and the room behind it; in a call that is refused too.
func TestArgumentsStay(t *testing.T) {
	s := testaid.Source(2430)
	for _, c := range measures() {
		w := s.Lively(c)
		m := made(t, w)
		for range 5 {
			texts, kept := roomyTexts(drawnTexts(&s, c, 5, min(c.Len, 10)))
			for _, text := range texts {
				marksAsWords(t, m, w, text)
				notMarked(t, nil, text, api.ErrArg)
			}
			bestAsWords(t, m, w, texts...)
			bestIs(t, nil, 0, api.ErrArg, texts...)
			if !kept() {
				t.Fatalf("P24.3: %v: the texts were changed, or the room behind them", c)
			}
			bad, kept := roomyTexts([][]int{texts[0], make([]int, c.Len+1), {c.Vocab}, nil})
			notMarked(t, m, bad[1], api.ErrLong)
			notMarked(t, m, bad[2], api.ErrToken)
			notMarked(t, m, bad[3], api.ErrEmpty)
			bestIs(t, m, 0, api.ErrLong, bad...)
			if !kept() {
				t.Fatalf("P24.3: %v: a refused call changed the texts, or the room behind them", c)
			}
		}
		if !reflect.DeepEqual(m.Weights(), made(t, w).Weights()) {
			t.Errorf("P24.3: %v: the model was changed", c)
		}
	}
}

// A text's own tokens are all that is looked at: those behind its end are not.
func TestRoomIsNotLookedAt(t *testing.T) {
	s := testaid.Source(2431)
	for _, c := range measures() {
		w := s.Lively(c)
		m := made(t, w)
		text := append(drawnText(&s, c, c.Len), -1, -1)
		marksAsWords(t, m, w, text[:c.Len])
		notMarked(t, m, text[:0], api.ErrEmpty)
		notMarked(t, m, text[:c.Len+1], api.ErrLong)
		texts := [][]int{text[:c.Len], text[:1], text[c.Len : c.Len+1]}
		bestAsWords(t, m, w, texts[:2]...)
		bestIs(t, m, 0, api.ErrToken, texts...)
		bestIs(t, m, 0, api.ErrEmpty, texts[:0]...)
	}
}

// One piece of memory may be several texts, in part too.
func TestTextsMayShareMemory(t *testing.T) {
	s := testaid.Source(2432)
	for _, c := range measures() {
		w := s.Lively(c)
		m := made(t, w)
		text := drawnText(&s, c, c.Len)
		var texts [][]int
		for range 40 {
			from := s.Below(c.Len)
			texts = append(texts, text[from:from+1+s.Below(min(c.Len-from, 9))])
		}
		kept := testaid.Guard(text)
		bestAsWords(t, m, w, texts...)
		if !kept() {
			t.Errorf("P24.3: %v: Best changed a text", c)
		}
	}
}

// Texts that are written over behind a call change no answer, and no later one.
func TestNothingIsKept(t *testing.T) {
	s := testaid.Source(2433)
	for _, c := range measures() {
		w := s.Lively(c)
		m := made(t, w)
		text := drawnText(&s, c, min(c.Len, 9))
		marks, want := marked(t, m, text), wordsMarks(t, m, w, text)
		score.Best(m, text, text)
		testaid.Overwrite(text, c.Vocab-1)
		if !slices.Equal(marks, want) {
			t.Errorf("P24.3: %v: the marks changed with the text", c)
		}
		marksAsWords(t, m, w, text)
		bestAsWords(t, m, w, drawnText(&s, c, len(text)), text)
		out := m.Weights()
		testaid.Overwrite(out.Head.Data, 1)
		testaid.Overwrite(out.Embed.Data, 1)
		marksAsWords(t, m, w, text)
	}
}

// An answer written into or appended to changes no other answer, no later one, not the text, and not the model.
func TestAnswersAreApart(t *testing.T) {
	s := testaid.Source(2434)
	for _, c := range measures() {
		w := s.Lively(c)
		m := made(t, w)
		text := testaid.Roomy(drawnText(&s, c, c.Len), 77)
		once, again := marked(t, m, text), marked(t, m, text)
		keptText, keptMarks := testaid.Guard(text), testaid.Guard(again)
		testaid.Spoil(once, spoilt)
		if !keptText() || !keptMarks() {
			t.Errorf("P24.3: %v: writing over an answer changed another one or the text", c)
		}
		testaid.Spoil(again, spoilt)
		marksAsWords(t, m, w, text)
		bestAsWords(t, m, w, text, text[:1])
		if !reflect.DeepEqual(m.Weights(), made(t, w).Weights()) {
			t.Errorf("P24.3: %v: writing over answers changed the model", c)
		}
	}
}

// What was asked before, of this model or another, is not seen.
func TestOrderIsNotSeen(t *testing.T) {
	s := testaid.Source(2435)
	c := measures()[4]
	w, other := s.Lively(c), s.Lively(c)
	m, n := made(t, w), made(t, other)
	for range 20 {
		texts := drawnTexts(&s, c, 4, c.Len)
		marksAsWords(t, m, w, texts[0])
		marksAsWords(t, n, other, texts[0])
		bestIs(t, m, 0, api.ErrEmpty, texts[1], nil)
		bestAsWords(t, n, other, texts...)
		notMarked(t, n, []int{c.Vocab}, api.ErrToken)
		bestAsWords(t, m, w, texts...)
		marksAsWords(t, m, w, texts[3])
	}
}
