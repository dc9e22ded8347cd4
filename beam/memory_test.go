package beam_test

import (
	"reflect"
	"slices"
	"testing"

	"augur/api"
	"augur/testaid"
)

var spoilt = api.Beam{Tokens: []int{77}, Gap: 78, Over: true}

// copied: an answer that shares nothing with another one.
func copied(list []api.Beam) []api.Beam {
	out := slices.Clone(list)
	for i, b := range list {
		out[i].Tokens = slices.Clone(b.Tokens)
	}
	return out
}

// What is handed in stays, and the room behind it; in a call that is refused too.
func TestArgumentsStay(t *testing.T) {
	s := testaid.Source(2650)
	for _, c := range small()[2:] {
		w := s.Lively(c)
		l := tellerOf(t, w)
		p := poolOf(t, c, 256, 16)
		for range 6 {
			prompt := testaid.Roomy(drawn(&s, c, 1+s.Below(c.Len-2)), 77)
			bad := testaid.Roomy([]int{1, c.Vocab}, 77)
			kept := []func() bool{testaid.Guard(prompt), testaid.Guard(bad)}
			n, most := 1+s.Below(api.MaxLive), 1+s.Below(c.Len-len(prompt))
			l.finds(p, prompt, n, most, l.first(prompt, n, most))
			refuses(t, l.m, p, bad, n, most, api.ErrToken)
			refuses(t, l.m, p, prompt[:0], n, most, api.ErrEmpty)
			refuses(t, l.m, p, prompt, 0, most, api.ErrArg)
			refuses(t, l.m, p, prompt, n, c.Len, api.ErrLong)
			refuses(t, nil, p, prompt, n, most, api.ErrArg)
			if !kept[0]() || !kept[1]() {
				t.Fatalf("P26.5: %v: a prompt was changed, or the room behind it", c)
			}
		}
		if !reflect.DeepEqual(l.m.Weights(), tellerOf(t, w).m.Weights()) {
			t.Errorf("P26.5: %v: the model was changed", c)
		}
	}
}

// A prompt's own tokens are all that is looked at: those behind its end are not.
func TestRoomIsNotLookedAt(t *testing.T) {
	s := testaid.Source(2651)
	for _, c := range small()[2:] {
		l := tellerOf(t, s.Lively(c))
		p := poolOf(t, c, 256, 16)
		text := append(drawn(&s, c, c.Len-1), -1, c.Vocab)
		l.finds(p, text[:c.Len-1], 5, 1, l.first(text[:c.Len-1], 5, 1))
		l.finds(p, text[:2], 5, c.Len-2, l.first(text[:2], 5, c.Len-2))
		refuses(t, l.m, p, text[:c.Len], 5, 1, api.ErrToken)
		refuses(t, l.m, p, text[:c.Len+1], 5, 1, api.ErrLong)
		refuses(t, l.m, p, text[:0], 5, 1, api.ErrEmpty)
	}
}

// A prompt that is written over behind a call changes no answer, and no later one.
func TestNothingIsKept(t *testing.T) {
	s := testaid.Source(2652)
	for _, c := range small()[2:] {
		l := tellerOf(t, s.Lively(c))
		p := poolOf(t, c, 256, 16)
		prompt := drawn(&s, c, 2)
		got, again := l.found(p, prompt, 7, c.Len-2), slices.Clone(prompt)
		want := l.first(prompt, 7, c.Len-2)
		testaid.Overwrite(prompt, c.Vocab-1)
		if !sameBeams(got, want) {
			t.Errorf("P26.5: %v: the answer changed with the prompt", c)
		}
		l.asWords(prompt, 7, c.Len-2, 16)
		l.finds(p, again, 7, c.Len-2, want)
		out := l.m.Weights()
		testaid.Overwrite(out.Head.Data, 1)
		testaid.Overwrite(out.Embed.Data, 1)
		l.finds(p, again, 7, c.Len-2, want)
	}
}

// A continuation written into or appended to changes no other one of the answer, no other answer, no later one, and not the prompt.
func TestAnswersAreApart(t *testing.T) {
	s := testaid.Source(2653)
	for _, c := range small()[1:] {
		l := tellerOf(t, s.Tight(c))
		p := poolOf(t, c, 256, 16)
		for _, long := range []int{1, c.Len - 1} {
			prompt := testaid.Roomy(drawn(&s, c, long), 77)
			kept := testaid.Guard(prompt)
			once, again := l.found(p, prompt, 16, c.Len-long), l.found(p, prompt, 16, c.Len-long)
			want := copied(once)
			for i := range once {
				testaid.Spoil(once[i].Tokens, 77)
				if !sameBeams(once[i+1:], want[i+1:]) || !sameBeams(again, want) || !kept() {
					t.Fatalf("P26.5: %v: writing over number %d of an answer changed something else", c, i)
				}
			}
			testaid.Spoil(once, spoilt)
			if !sameBeams(again, want) {
				t.Fatalf("P26.5: %v: writing over an answer changed another one", c)
			}
			l.finds(p, prompt, 16, c.Len-long, want)
		}
	}
}

// What was asked before, of this model or another, over this pool or another, is not seen.
func TestOrderIsNotSeen(t *testing.T) {
	s := testaid.Source(2654)
	c := measures()[3]
	l, other := tellerOf(t, s.Lively(c)), tellerOf(t, s.Tight(c))
	p, q := poolOf(t, c, 256, 16), poolOf(t, c, 200, 1)
	for range 20 {
		prompt := drawn(&s, c, 1+s.Below(c.Len-1))
		n, most := 1+s.Below(9), 1+s.Below(c.Len-len(prompt))
		l.finds(p, prompt, n, most, l.first(prompt, n, most))
		other.finds(p, prompt, n, most, other.first(prompt, n, most))
		refuses(t, l.m, p, []int{c.Vocab}, n, most, api.ErrToken)
		other.finds(q, prompt, n, most, other.first(prompt, n, most))
		l.finds(q, prompt, n, most, l.first(prompt, n, most))
	}
}
