package text_test

import (
	"strings"
	"testing"
	"unicode/utf8"

	"augur/testaid"
)

// edges: the bytes at the edges of what a rune's bytes may be, and some between them.
const edges = "a\x00\x7f\x80\x8f\x90\x9f\xa0\xbf\xc0\xc1\xc2\xdf\xe0\xe1\xec\xed\xee\xef\xf0\xf1\xf3\xf4\xf5\xff"

// allBeginnings: all there are, made of the bytes of all runes; how many runes each begins.
func allBeginnings() map[string]int {
	out := map[string]int{}
	for r := rune(0); r <= utf8.MaxRune; r++ {
		if !utf8.ValidRune(r) {
			continue
		}
		whole := string(r)
		for n := 1; n < len(whole); n++ {
			out[whole[:n]]++
		}
	}
	return out
}

// The chapter's list of a rune's beginnings is that of all runes: so the second writing may stand on it.
func TestBeginningsAreThoseOfRunes(t *testing.T) {
	all := allBeginnings()
	for a := range 256 {
		one := string([]byte{byte(a)})
		if isBeginning(one) != (all[one] > 0) {
			t.Errorf("%q: %v", one, isBeginning(one))
		}
		for b := range 256 {
			two := one + string([]byte{byte(b)})
			if isBeginning(two) != (all[two] > 0) {
				t.Errorf("%q: %v", two, isBeginning(two))
			}
			for c := range 256 {
				three := two + string([]byte{byte(c)})
				if isBeginning(three) != (all[three] > 0) {
					t.Errorf("%q: %v", three, isBeginning(three))
				}
			}
		}
	}
}

// All texts of two bytes, byte by byte: just the beginnings wait.
func TestAllBytes(t *testing.T) {
	for a := range 256 {
		for b := range 256 {
			in := string([]byte{byte(a), byte(b)})
			v := testaid.Vocab(unlike(in))
			paired(t, v).oneByOne(t, byByte(t, v, in)...)
		}
	}
}

// All texts of up to three of the edges, and of four if the first begins a rune.
func TestEdges(t *testing.T) {
	v := testaid.Vocab(edges)
	for _, in := range allTexts(3, edges) {
		if len(in) < 3 {
			continue // the beginning of a longer one
		}
		tokens := byByte(t, v, in)
		paired(t, v).oneByOne(t, tokens...)
		if in[0] < 0xf0 {
			continue
		}
		for token := range len(edges) {
			paired(t, v).oneByOne(t, append(tokens, token+1)...)
		}
	}
}

// unlike: the bytes of a text, each once.
func unlike(in string) string {
	out := ""
	for i := range len(in) {
		if !strings.Contains(out, in[i:i+1]) {
			out += in[i : i+1]
		}
	}
	return out
}

// wholly: behind something that is given out, the bytes of a rune one by one: none, till all are there.
func wholly(t *testing.T, r rune) {
	t.Helper()
	in := string(r)
	v := testaid.Vocab(unlike(in + "a"))
	s := made(t, v)
	tokens := byByte(t, v, in)
	feeds(t, s, "a", false, byByte(t, v, "a")...)
	for _, token := range tokens[:len(in)-1] {
		feeds(t, s, "", false, token)
	}
	feeds(t, s, in, false, tokens[len(in)-1])
	feeds(t, s, in+in, false, append(tokens, tokens...)...)
	closes(t, s, "")
}

// Each rune of up to two bytes, each seventh of the others, and those at the edges.
func TestRunesComeWhole(t *testing.T) {
	for r := rune(0); r <= utf8.MaxRune; r++ {
		if r < 0x800 || utf8.ValidRune(r) && r%7 == 0 {
			wholly(t, r)
		}
	}
	for _, r := range []rune{0x7f, 0x80, 0x7ff, 0x800, 0xfff, 0x1000, 0xcfff, 0xd000, 0xd7ff, 0xe000, 0xfffd, 0xfffe, 0xffff, 0x10000, 0x3ffff, 0x40000, 0xfffff, 0x100000, 0x10ffff} {
		wholly(t, r)
	}
}

// What no rune begins so is given out at once, though more of such bytes may come.
func TestNoRunes(t *testing.T) {
	v := testaid.Vocab(edges)
	for _, in := range []string{
		"\x80", "\x80\x80\x80\x80", "\xc0", "\xc1\x80", "\xf5", "\xff", "\xf5\x80", "\xe0\x80", "\xe0\x9f", "\xed\xa0", "\xed\xbf", "\xf0\x80", "\xf0\x8f", "\xf4\x90", "\xf4\xbf",
		"\xe1a", "\xc2a", "\xf1\x80a", "\xf1\x80\x80a", "\xe0\xa0\x80\x80", "\xc2\x80\xbf",
	} {
		s := made(t, v)
		feeds(t, s, in, false, byByte(t, v, in)...)
		p := paired(t, v)
		p.oneByOne(t, byByte(t, v, in+in)...)
	}
	for _, in := range []string{"\xc2", "\xdf", "\xe0", "\xe0\xa0", "\xed\x9f", "\xef\xbf", "\xf0", "\xf0\x90", "\xf0\x90\x80", "\xf4\x8f\xbf", "\xf3\xbf\xbf"} {
		s := made(t, v)
		feeds(t, s, "", false, byByte(t, v, in)...)
		feeds(t, s, in, false, byByte(t, v, in)...) // the first is none, once the other one comes
		closes(t, s, in)
		feeds(t, made(t, v), in+"a", false, byByte(t, v, in+"a")...)
		feeds(t, made(t, v), "a", false, byByte(t, v, "a"+in)...)
		feeds(t, made(t, v), "a"+in, true, append(byByte(t, v, "a"+in), 0)...)
	}
}

// A rune's beginning ahead of a stop's waits, whatever the stop's bytes are: they may be bytes of the rune, of another one, or of none.
func TestRunesAheadOfStops(t *testing.T) {
	const letters = "ab\x80\xc2\xe2\x82\xac\xf0\x9f"
	v := testaid.Vocab(letters)
	for _, in := range allTexts(4, letters) {
		if len(in) < 4 {
			continue
		}
		tokens := byByte(t, v, in)
		for _, stops := range [][]string{{"\xaca"}, {"a\x80"}, {"\x82\xacb", "\xacb"}, {"\xe2\x82\xac"}, {"\x80\x80\x80", "\xf0a"}} {
			paired(t, v, stops...).oneByOne(t, tokens...)
		}
	}
	s := made(t, v, "ab")
	feeds(t, s, "", false, byByte(t, v, "\xe2a")...) // e2 waits, though no rune goes on with a
	feeds(t, s, "\xe2", true, byByte(t, v, "b")...)
	s = made(t, v, "ab")
	feeds(t, s, "", false, byByte(t, v, "\xe2\x82a")...)
	feeds(t, s, "\xe2\x82aa", false, byByte(t, v, "aa")...)
	s = made(t, v, "\x82\xaca")
	feeds(t, s, "", false, byByte(t, v, "\xe2\x82\xac")...)
	feeds(t, s, "\xe2", true, byByte(t, v, "a")...)
}

// Tokens of several bytes that begin and end within runes.
func TestRunesOverTokens(t *testing.T) {
	v := testaid.Vocab("\xe2\x82\xaca", [2]int{2, 3}, [2]int{3, 1}, [2]int{5, 1}, [2]int{6, 2}, [2]int{8, 6}) // 5 82 ac, 6 ac e2, 7 82 ac e2, 8 ac e2 82, 9 ac e2 82 ac e2
	s := made(t, v)
	feeds(t, s, "", false, 1)
	feeds(t, s, "€", false, 7)
	feeds(t, s, "€a", false, 5, 4)
	feeds(t, s, "", false, 1, 2)
	feeds(t, s, "€€", false, 9)
	feeds(t, s, "€", false, 2, 8)
	feeds(t, s, "€", false, 3)
	closes(t, s, "")
	source := testaid.Source(219)
	for range 4000 {
		stops := someStops(&source, "\xe2\x82\xaca")
		p := paired(t, v, stops...)
		for _, piece := range cut(&source, someTokens(&source, v, 12, true)) {
			p.feed(t, piece...)
		}
		p.close(t)
	}
}
