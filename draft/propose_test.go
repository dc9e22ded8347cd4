package draft_test

import (
	"math"
	"runtime"
	"slices"
	"testing"

	"augur/api"
	"augur/model"
	"augur/testaid"
)

func TestProposeExamples(t *testing.T) {
	m := ring(t)
	proposes(t, m, []int{1}, []int{1, 1, 1}, -1, 2, 0, 3, 1, 1)
	proposes(t, m, []int{1}, []int{2, 1}, -1, 2, -1, 1, 0, 3, 1, 2)
	proposes(t, m, []int{1}, []int{9}, -1, 2, -1, 1, -1, 3)
	proposes(t, m, []int{1}, nil)
	proposes(t, m, []int{1}, []int{0, 5})
	refused(t, m, nil, api.ErrEmpty, 1)
	refused(t, m, []int{4}, api.ErrToken, 1)
	refused(t, m, []int{1}, api.ErrArg, -1)
}

// The nodes of a depth stand side by side, those of one parent together, the better first.
func TestOrderOfNodes(t *testing.T) {
	m := ring(t)
	proposes(t, m, []int{1}, []int{2, 2}, -1, 2, -1, 1, 0, 3, 0, 1, 1, 2, 1, 1)
	proposes(t, m, []int{1}, []int{1, 2, 1}, -1, 2, 0, 3, 0, 1, 1, 1, 2, 2)
	proposes(t, m, []int{2}, []int{3, 1, 1}, -1, 3, -1, 1, -1, 2, 0, 1, 1, 2, 2, 3, 3, 2, 4, 3, 5, 1)
	proposes(t, m, []int{3, 2, 1}, []int{1, 3}, -1, 2, 0, 3, 0, 1, 0, 2)
}

// End is never guessed, even where the model likes it best; and what stands behind an End in the text is guessed all the same.
func TestEndIsLeftOut(t *testing.T) {
	m := ring(t)
	proposes(t, m, []int{0}, []int{1}, -1, 1)
	proposes(t, m, []int{0}, []int{2, 1}, -1, 1, -1, 2, 0, 2, 1, 3)
	proposes(t, m, []int{1, 0}, []int{9}, -1, 1, -1, 2, -1, 3)
	proposes(t, m, []int{0, 1}, []int{1, 1}, -1, 2, 0, 3)
	// Of two tokens one alone may be guessed, however many are asked for.
	two, w := level(t, 2, 3)
	proposes(t, two, []int{0}, []int{5, 5, 5}, -1, 1, 0, 1, 1, 1)
	asWords(t, two, w, []int{1, 1}, slices.Repeat([]int{2}, 99)...)
}

// Of tokens that are liked alike the lower comes first.
func TestAlikeTokens(t *testing.T) {
	m, _ := level(t, 5, 4)
	proposes(t, m, []int{3}, []int{2, 2}, -1, 1, -1, 2, 0, 1, 0, 2, 1, 1, 1, 2)
	proposes(t, m, []int{0, 4, 2}, []int{9}, -1, 1, -1, 2, -1, 3, -1, 4)
}

// A width of 0 ends the tree there, whatever is behind it.
func TestWidthsOfNought(t *testing.T) {
	m := ring(t)
	for _, behind := range [][]int{nil, {0}, {1}, {3, 3}, {0, 1}, {0, 0, 0, 0}, {math.MaxInt}} {
		proposes(t, m, []int{1}, append([]int{0}, behind...))
		proposes(t, m, []int{1}, append([]int{2, 0}, behind...), -1, 2, -1, 1)
		proposes(t, m, []int{1}, append([]int{1, 1, 0}, behind...), -1, 2, 0, 3)
	}
}

// Not more tokens than there are.
func TestWidthsAboveTheVocabulary(t *testing.T) {
	m := ring(t)
	for _, width := range []int{3, 4, 5, 95, 96, 97, 1 << 31, 1 << 32, 1 << 62, math.MaxInt - 1, math.MaxInt} {
		proposes(t, m, []int{1}, []int{width}, -1, 2, -1, 1, -1, 3)
		proposes(t, m, []int{1}, []int{1, width}, -1, 2, 0, 3, 0, 1, 0, 2)
		proposes(t, m, []int{1}, []int{width, 1}, -1, 2, -1, 1, -1, 3, 0, 3, 1, 2, 2, 1)
		proposes(t, m, []int{1}, []int{width, 0, width}, -1, 2, -1, 1, -1, 3)
	}
}

// cutAt: of a level model of 64 tokens, these widths give so many nodes, and this is the last.
func cutAt(t *testing.T, widths []int, nodes, parent, token int) {
	t.Helper()
	m, w := level(t, 64, 4)
	got := proposed(t, m, []int{7}, widths...)
	last := api.RawNode{Parent: parent, Token: token}
	if len(got) != nodes || got[len(got)-1] != last {
		t.Errorf("P25.1: widths %v: %d nodes, the last %v, want %d and %v", widths, len(got), got[len(got)-1], nodes, last)
	}
	asWords(t, m, w, []int{7}, widths...)
}

// MaxRaw nodes at most: cut off just at the end of a depth, among one node's children, and between those of two.
func TestMost(t *testing.T) {
	cutAt(t, []int{48, 1}, 96, 47, 1)
	cutAt(t, []int{6, 15}, 96, 5, 15)
	cutAt(t, []int{32, 1, 1}, 96, 63, 1)
	cutAt(t, []int{5, 9, 1}, 95, 49, 1)
	cutAt(t, []int{1, 47, 1}, 95, 47, 1)
	cutAt(t, []int{1, 48, 1}, 96, 47, 1)
	cutAt(t, []int{63}, 63, -1, 63)
	cutAt(t, []int{99, 99}, 96, 0, 33)
	cutAt(t, []int{60, 36}, 96, 0, 36)
	cutAt(t, []int{60, 35}, 96, 1, 1)
	cutAt(t, []int{60, 37, 1}, 96, 0, 36)
	cutAt(t, []int{5, 5, 5}, 96, 18, 1)
	cutAt(t, []int{9, 9, 2}, 96, 11, 2)
	cutAt(t, []int{32, 2, 3}, 96, 31, 2)
	cutAt(t, slices.Repeat([]int{1}, 95), 95, 93, 1)
	cutAt(t, slices.Repeat([]int{1}, 96), 96, 94, 1)
	cutAt(t, slices.Repeat([]int{1}, 97), 96, 94, 1)
	cutAt(t, slices.Repeat([]int{2}, 9), 96, 46, 2)
}

// Texts shorter than the model's positions, as long, and longer; ways that grow beyond them.
func TestWindow(t *testing.T) {
	s := testaid.Source(2502)
	unlike := 0
	for _, c := range small() {
		w := s.Lively(c)
		m := made(t, w)
		for n := 1; n < 3*c.Len+2; n++ {
			text := drawnText(&s, c, n)
			asWords(t, m, w, text, 2, 1, 1)
			asWords(t, m, w, text, slices.Repeat([]int{1}, c.Len+3)...)
			// What stands ahead of the window changes nothing; what stands in it may.
			last := text[max(0, n-c.Len):]
			if !slices.Equal(proposed(t, m, text, 3, 2), proposed(t, m, last, 3, 2)) {
				t.Fatalf("P25.1: %v: %v and its window %v", c, text, last)
			}
			other := slices.Clone(text)
			other[max(0, n-c.Len)] = (other[max(0, n-c.Len)] + 1) % c.Vocab
			if !slices.Equal(proposed(t, m, text, 3, 2), proposed(t, m, other, 3, 2)) {
				unlike++
			}
		}
	}
	if unlike < 20 {
		t.Errorf("only %d texts whose window's first token tells", unlike)
	}
}

// A model of one position sees the last token alone.
func TestWindowOfOne(t *testing.T) {
	w := testaid.Ring()
	w.Config.Len = 1
	m := made(t, w)
	proposes(t, m, []int{3, 3, 1}, []int{1, 1, 1, 1}, -1, 2, 0, 3, 1, 1, 2, 2)
	proposes(t, m, []int{2}, []int{2, 1}, -1, 3, -1, 1, 0, 1, 1, 2)
}

// All short texts with all lists of small widths.
func TestAllShort(t *testing.T) {
	s := testaid.Source(2503)
	w := s.Lively(api.Config{Vocab: 4, Width: 4, Heads: 2, KV: 1, Layers: 1, Hidden: 2, Len: 3})
	m := made(t, w)
	for _, text := range testaid.Lists(3, 0, 1, 2, 3)[1:] {
		for _, widths := range testaid.Lists(3, 0, 1, 2, 3) {
			asWords(t, m, w, text, widths...)
		}
	}
}

func TestDrawn(t *testing.T) {
	s := testaid.Source(2504)
	full := 0
	for _, c := range small() {
		for range 4 {
			w := s.Lively(c)
			m := made(t, w)
			for range 10 {
				text, widths := drawnText(&s, c, 1+s.Below(c.Len+4)), drawnWidths(&s, c, s.Below(8))
				asWords(t, m, w, text, widths...)
				if len(proposed(t, m, text, widths...)) == 96 {
					full++
				}
			}
		}
	}
	if full < 20 {
		t.Errorf("only %d full trees", full)
	}
}

// The greatest model, with a text of all its positions and a longer one.
func TestGreatest(t *testing.T) {
	s := testaid.Source(2505)
	c := measures()[6]
	w := s.Lively(c)
	m := made(t, w)
	asWords(t, m, w, drawnText(&s, c, 64), 3, 2, 1)
	asWords(t, m, w, drawnText(&s, c, 100), 2, 2)
	asWords(t, m, w, drawnText(&s, c, 60), 1, 1, 1, 1, 1, 1)
	asWords(t, m, w, drawnText(&s, c, 3), 64, 64)
}

// A model that was read from its file proposes the same.
func TestLoadedModel(t *testing.T) {
	s := testaid.Source(2506)
	for _, c := range small() {
		w := s.Lively(c)
		b, e := model.Encode(w)
		if e != api.OK {
			t.Fatalf("Encode answered the error %d", e)
		}
		m, e := model.Load(b)
		if e != api.OK {
			t.Fatalf("Load answered the error %d", e)
		}
		asWords(t, m, w, drawnText(&s, c, 3), 3, 2)
	}
}

// wrongWidths: with one below 0 at the first place, at the last, behind a 0, behind a tree that is full.
func wrongWidths() [][]int {
	return [][]int{
		{-1}, {-1, 1}, {1, -1}, {1, -1, 1}, {0, -1}, {-1, 0}, {0, 0, 0, 0, -5}, {64, 64, -1}, {64, 64, 64, 64, -1}, {math.MaxInt, -2},
		{math.MinInt}, {1, math.MinInt}, {math.MaxInt, math.MinInt}, {-1 << 32}, {-97}, append(slices.Repeat([]int{1}, 200), -1),
	}
}

// wrongTexts: with a token that is none, for so many tokens and positions.
func wrongTexts(vocab, long int) [][]int {
	var out [][]int
	for _, bad := range []int{-1, -2, math.MinInt, vocab, vocab + 1, vocab + 1<<32, math.MaxInt} {
		inside := slices.Repeat([]int{1}, 2*long+3)
		inside[long] = bad
		out = append(out, []int{bad}, []int{1, bad}, []int{bad, 1}, append([]int{bad}, make([]int, 2*long)...), append(make([]int, 2*long), bad), inside)
	}
	return out
}

// The errors in their order; all widths and all tokens are looked at, also those that nothing hangs on.
func TestProposeRefuses(t *testing.T) {
	s := testaid.Source(2507)
	for _, c := range measures() {
		m := made(t, s.Lively(c))
		texts := append(wrongTexts(c.Vocab, c.Len), nil, []int{}, []int{0}, []int{1, 1})
		rights := [][]int{nil, {}, {0}, {0, 1}, {1}, {2, 0, 2}}
		for _, text := range texts {
			for _, widths := range append(wrongWidths(), rights...) {
				refused(t, nil, text, api.ErrArg, widths...)
				if want := wordsError(c, text, widths); want != api.OK {
					refused(t, m, text, want, widths...)
				}
			}
		}
		for _, text := range texts[len(texts)-2:] {
			for _, widths := range rights {
				proposed(t, m, text, widths...)
			}
		}
	}
}

// taken: how many bytes a call takes.
func taken(call func()) uint64 {
	var before, behind runtime.MemStats
	runtime.ReadMemStats(&before)
	call()
	runtime.ReadMemStats(&behind)
	return behind.TotalAlloc - before.TotalAlloc
}

// Texts and widths of any length; End may stand anywhere in a text.
func TestVeryLong(t *testing.T) {
	s := testaid.Source(2508)
	for _, c := range small() {
		w := s.Lively(c)
		m := made(t, w)
		text := drawnText(&s, c, 1<<20)
		widths := slices.Repeat([]int{2}, 1<<20)
		var got []api.RawNode
		if is := taken(func() { got = proposed(t, m, text, widths...) }); is > 1<<22 {
			t.Errorf("%v: a long text took %d bytes", c, is)
		}
		if want := wordsTree(t, m, w, text[len(text)-c.Len:], widths[:99]); !slices.Equal(got, want) {
			t.Errorf("P25.1: %v: %v, want %v", c, got, want)
		}
		text[0] = c.Vocab
		refused(t, m, text, api.ErrToken, widths...)
		widths[len(widths)-1] = -1
		refused(t, m, text, api.ErrArg, widths...)
		refused(t, nil, text, api.ErrArg, widths...)
	}
}

// Behind a node that gets no children nothing goes through the model: once the tree is full, at a width of 0, or behind the last width.
func TestNoIdleWork(t *testing.T) {
	s := testaid.Source(2509)
	c := measures()[6]
	m := made(t, s.Lively(c))
	text := drawnText(&s, c, c.Len)
	one := taken(func() { proposed(t, m, text, 64) })
	for _, widths := range [][]int{{64, 64}, {64, 64, 1, 1}, {64, 0}, {1, 1}, {1, 1, 0, 7}} {
		if is := taken(func() { proposed(t, m, text, widths...) }); is > 3*one {
			t.Errorf("widths %v took %d bytes, one token's logits %d", widths, is, one)
		}
	}
	if is := taken(func() { proposed(t, m, text, 0, 9) }); is > one/4 {
		t.Errorf("the width 0 took %d bytes, one token's logits %d", is, one)
	}
}
