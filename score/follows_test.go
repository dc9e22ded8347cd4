package score_test

import (
	"slices"
	"testing"

	"augur/api"
	"augur/heads"
	"augur/pick"
	"augur/score"
	"augur/testaid"
	"augur/xform"
)

// The marks of the first tokens are the first marks.
func TestMarksOfABeginning(t *testing.T) {
	s := testaid.Source(2420)
	for _, c := range measures() {
		m := made(t, s.Lively(c))
		text := drawnText(&s, c, c.Len)
		all := marked(t, m, text)
		if len(all) != c.Len-1 {
			t.Fatalf("P24.1: %d marks of %d tokens", len(all), c.Len)
		}
		for n := 1; n <= c.Len; n++ {
			if got := marked(t, m, text[:n]); !slices.Equal(got, all[:n-1]) {
				t.Errorf("what follows: %v: the first %d tokens have the marks %v, the text %v", c, n, got, all)
			}
		}
	}
}

// A mark tells of its token alone: of those that may stand at a place each rank is one's, and the gaps do not fall with the rank.
func TestRanksOfAPlace(t *testing.T) {
	s := testaid.Source(2421)
	for _, c := range measures()[1:] {
		m := made(t, s.Lively(c))
		text := drawnText(&s, c, min(c.Len, 7))
		last := len(text) - 1
		gaps := slices.Repeat([]int64{-1}, c.Vocab)
		for token := range c.Vocab {
			text[last] = token
			mark := marked(t, m, text)[last-1]
			if mark.Rank < 0 || mark.Rank >= c.Vocab || gaps[mark.Rank] >= 0 {
				t.Fatalf("what follows: %v: the token %d has the mark %v", c, token, mark)
			}
			gaps[mark.Rank] = mark.Gap
		}
		if gaps[0] != 0 || !slices.IsSorted(gaps) {
			t.Errorf("what follows: %v: gaps by rank %v", c, gaps)
		}
	}
}

// The gap 0 just where no token has a greater logit, and always at the rank 0.
func TestNoGapJustWhereNoneIsGreater(t *testing.T) {
	s := testaid.Source(2422)
	none := 0
	for range 30 {
		w, _ := s.Small()
		// Few unlike numbers, so that logits are alike here and there.
		for i := range w.Head.Data {
			w.Head.Data[i] = int8(s.Below(2))
		}
		m := made(t, w)
		text := drawnText(&s, w.Config, w.Config.Len)
		for i, mark := range marked(t, m, text) {
			logits := logitsAt(t, m, w, text, i+1)
			greatest := logits[text[i+1]] == slices.Max(logits)
			if mark.Gap < 0 || (mark.Gap == 0) != greatest || mark.Rank == 0 && mark.Gap != 0 {
				t.Errorf("what follows: the mark %v of the token %d in %v", mark, text[i+1], logits)
			}
			if mark.Gap == 0 && mark.Rank > 0 {
				none++
			}
		}
	}
	if none < 5 {
		t.Errorf("only %d tokens without a gap behind others", none)
	}
}

// What is answered greedily, with no penalty and no guide, has the rank 0 and the gap 0, and no other answer does better.
func TestGreedyAnswers(t *testing.T) {
	s := testaid.Source(2423)
	for range 30 {
		w, v := s.Small()
		m := made(t, w)
		prompt := drawnText(&s, w.Config, 1+s.Below(w.Config.Len-1))
		answer, e := testaid.Ref(m, v, api.Ask{Prompt: prompt, New: w.Config.Len - len(prompt), Params: testaid.Greedy})
		if e != api.OK {
			t.Fatalf("Ref answered the error %d", e)
		}
		whole := slices.Concat(prompt, answer)
		marks := marked(t, m, whole)[len(prompt)-1:]
		if len(marks) != len(answer) {
			t.Fatalf("P24.1: %d marks of %d answered tokens", len(marks), len(answer))
		}
		for _, mark := range marks {
			if mark != (api.Mark{}) {
				t.Errorf("what follows: %v answered behind %v has the marks %v", answer, prompt, marks)
			}
		}
		bestIs(t, m, 0, api.OK, whole, slices.Concat(prompt, drawnText(&s, w.Config, len(answer))))
	}
}

// The token that Choose chooses greedily behind a text is the one of the rank 0.
func TestGreedyChoice(t *testing.T) {
	s := testaid.Source(2424)
	for _, c := range measures()[1:] {
		m := made(t, s.Lively(c))
		for range 10 {
			text := drawnText(&s, c, 1+s.Below(c.Len-1))
			points, _ := xform.Full(m, text)
			logits, _ := heads.Logits(m, points[len(text)-1].Hidden)
			token, e := pick.Choose(testaid.Greedy, logits, text, len(text), nil)
			if e != api.OK {
				t.Fatalf("Choose answered the error %d", e)
			}
			if mark := marked(t, m, append(text, token))[len(text)-1]; mark != (api.Mark{}) {
				t.Errorf("what follows: the chosen token %d has the mark %v", token, mark)
			}
		}
	}
}

// Best of some texts and one more is as before, unless the new one's gaps are less; then it is the new one.
func TestOneTextMore(t *testing.T) {
	s := testaid.Source(2425)
	changed := 0
	for _, c := range measures()[1:6] {
		m := made(t, s.Lively(c))
		texts := drawnTexts(&s, c, 12, c.Len)
		// The longer ones first, so that the best changes now and then.
		slices.SortStableFunc(texts, func(a, b []int) int { return len(b) - len(a) })
		before := 0
		for n, text := range texts {
			want := before
			if added(marked(t, m, text)) < added(marked(t, m, texts[before])) {
				want = n
				changed++
			}
			got, e := score.Best(m, texts[:n+1]...)
			if got != want || e != api.OK {
				t.Errorf("what follows: Best of %d texts = %d, %d, want %d", n+1, got, e, want)
			}
			before = want
		}
	}
	if changed < 5 {
		t.Errorf("only %d texts were better than those ahead of them", changed)
	}
}
