package text_test

import (
	"slices"
	"strings"
	"testing"
	"unicode/utf8"

	"augur/api"
	"augur/bpe"
	"augur/testaid"
	"augur/text"
)

// given: what Feed gives out, which must be no error.
func given(t *testing.T, s *text.Stream, tokens ...int) string {
	t.Helper()
	b, e := s.Feed(tokens...)
	if e != api.OK {
		t.Fatalf("P18.2: Feed(%v): %d", first(tokens), e)
	}
	return string(b)
}

// Behind the same tokens the same bytes have been given out, however they were cut into calls.
func TestCutsDoNotMatter(t *testing.T) {
	source := testaid.Source(220)
	for range 3000 {
		const letters = "ab\xe2\x82\xac"
		v := source.Vocab(letters, source.Below(10))
		stops := someStops(&source, letters)
		tokens := someTokens(&source, v, source.Below(30), true)
		var outs []string // behind so many tokens, fed one by one
		single, out := made(t, v, stops...), ""
		for _, token := range tokens {
			outs = append(outs, out)
			out += given(t, single, token)
		}
		outs = append(outs, out)
		for range 3 {
			s, n, got := made(t, v, stops...), 0, ""
			for _, piece := range cut(&source, tokens) {
				got += given(t, s, piece...)
				n += len(piece)
				if got != outs[n] {
					t.Fatalf("what follows: stops %q, behind %v: %q, one by one %q", stops, tokens[:n], got, outs[n])
				}
			}
			if s.Over() != single.Over() {
				t.Fatalf("what follows: stops %q, behind %v: Over: %v, one by one %v", stops, tokens, s.Over(), single.Over())
			}
		}
		whole := given(t, made(t, v, stops...), tokens...)
		if whole != out {
			t.Fatalf("what follows: stops %q, %v: %q in one call, %q one by one", stops, tokens, whole, out)
		}
	}
}

// The pieces together are the text: all of what the tokens spell, up to the end; or up to the first stop, which may be looked for in the whole by other means.
func TestPiecesAreTheText(t *testing.T) {
	source := testaid.Source(221)
	stopped := 0
	for range 4000 {
		letters := []string{"ab", "abc", "a\xc2\x80"}[source.Below(3)]
		v := source.Vocab(letters, source.Below(10))
		tokens := someTokens(&source, v, source.Below(40), false)
		in := ""
		for _, token := range tokens {
			in += testaid.Spelled(v, token)
		}
		stop := someBytes(&source, 1+source.Below(6), letters)
		s, out := made(t, v, stop), ""
		for _, piece := range cut(&source, tokens) {
			out += given(t, s, piece...)
			if !strings.HasPrefix(in, out) || strings.Contains(out, stop) {
				t.Fatalf("what follows: stop %q, %q: %q was given out", stop, in, out)
			}
		}
		over := s.Over()
		out += string(s.Close())
		want, _, is := strings.Cut(in, stop) // of a single stop the one that begins first ends first
		if out != want || over != is {
			t.Fatalf("what follows: stop %q, %q: %q, Over: %v; want %q", stop, in, out, over, want)
		}
		if is {
			stopped++
		}
		s, out = made(t, v), ""
		for _, piece := range cut(&source, tokens) {
			out += given(t, s, piece...)
		}
		if out += string(s.Close()); out != in {
			t.Fatalf("what follows: without stops %q of %q", out, in)
		}
	}
	if stopped < 1000 || stopped > 3000 {
		t.Errorf("%d of 4000 were stopped", stopped)
	}
}

// Nothing that was given out holds a stop, nor do all pieces together.
func TestNoStopIsGivenOut(t *testing.T) {
	source := testaid.Source(222)
	for range 4000 {
		v := source.Vocab("abc", source.Below(10))
		stops := someStops(&source, "abc")
		s, all := made(t, v, stops...), ""
		for _, piece := range cut(&source, someTokens(&source, v, 20, true)) {
			all += given(t, s, piece...)
		}
		all += string(s.Close())
		for _, stop := range stops {
			if strings.Contains(all, stop) {
				t.Fatalf("what follows: %q holds the stop %q", all, stop)
			}
		}
	}
}

// someRunes: a valid text of so many of them.
func someRunes(s *testaid.Source, n int, runes ...string) string {
	out := ""
	for range n {
		out += runes[s.Below(len(runes))]
	}
	return out
}

// If what came is valid UTF-8 at last, and the stops are too, each piece is: in whatever pieces the tokens came, whatever ended it.
func TestPiecesAreRunes(t *testing.T) {
	source := testaid.Source(223)
	runes := []string{"a", "b", "é", "è", "€", "₭", "𝄞", "𝄢", "😀", "\uffff", "\U0010ffff", "\x00"}
	over, pieces := 0, 0
	for range 4000 {
		in := someRunes(&source, source.Below(20), runes...)
		v := testaid.Vocab(unlike(in + "a"))
		for range source.Below(12) {
			w := testaid.Vocab(string(v.Base), slices.Concat(v.Pairs, [][2]int{{1 + source.Below(testaid.Tokens(v)-1), 1 + source.Below(testaid.Tokens(v)-1)}})...)
			if bpe.Check(w) == api.OK {
				v = w
			}
		}
		tokens, e := bpe.Encode(v, []byte(in))
		if e != api.OK {
			t.Fatalf("Encode(%q): %d", in, e)
		}
		if source.Below(2) == 0 {
			tokens = append(tokens, api.End)
		}
		var stops []string
		for range source.Below(4) {
			stops = append(stops, someRunes(&source, 1+source.Below(3), runes[2:]...))
		}
		s := made(t, v, stops...)
		for _, piece := range cut(&source, tokens) {
			out := given(t, s, piece...)
			if !utf8.ValidString(out) {
				t.Fatalf("what follows: stops %q, %q: the piece %q", stops, in, out)
			}
			if len(out) > 0 {
				pieces++
			}
		}
		if s.Over() {
			over++
		}
		if b := s.Close(); !utf8.Valid(b) {
			t.Fatalf("what follows: stops %q, %q: the last piece %q", stops, in, b)
		}
	}
	if over < 1000 || pieces < 10000 {
		t.Errorf("too few: %d over, %d pieces", over, pieces)
	}
}

// As many as 18 bytes wait: all but one of a stop's, and three of a rune's ahead of them; and never more.
func TestMostThatWait(t *testing.T) {
	v := testaid.Vocab("ab\xf0\x9f\x98", [2]int{1, 1}, [2]int{6, 6}, [2]int{7, 7}, [2]int{8, 8})
	s := made(t, v, strings.Repeat("a", 15)+"b")
	feeds(t, s, "b", false, 2, 3, 4, 5, 8, 7, 6, 1)
	closes(t, s, "\xf0\x9f\x98"+strings.Repeat("a", 15))
	s = made(t, v, strings.Repeat("a", 15)+"b")
	feeds(t, s, "b", false, 2, 3, 4, 5, 8, 7, 6, 1)
	feeds(t, s, "\xf0\x9f\x98a", false, 1)
	feeds(t, s, "aaaaaaaa", false, 8)
	feeds(t, s, "", true, 2)
	source := testaid.Source(224)
	most := 0
	for range 4000 {
		stops := someStops(&source, "ab\x98")
		s := made(t, v, stops...)
		tokens := someTokens(&source, v, source.Below(20), false)
		tokens = append(tokens, byByte(t, v, "\xf0\x9f\x98")...)
		if len(stops) > 0 {
			tokens = append(tokens, byByte(t, v, stops[0][:len(stops[0])-1])...)
		}
		s.Feed(tokens...)
		most = max(most, len(s.Close()))
	}
	if most != 18 {
		t.Errorf("what follows: at most %d bytes waited", most)
	}
}

// W8: without stops the text of Encode of a text is that text, whatever the vocabulary.
func TestTextOfEncode(t *testing.T) {
	source := testaid.Source(225)
	for range 2000 {
		v := source.Vocab("abcd\x00\xc3\xa9\xff", source.Below(40))
		in := someBytes(&source, source.Below(60), string(v.Base))
		tokens, e := bpe.Encode(v, []byte(in))
		if e != api.OK {
			t.Fatalf("Encode(%q): %d", in, e)
		}
		s, out := made(t, v), ""
		for _, piece := range cut(&source, tokens) {
			out += given(t, s, piece...)
		}
		if out += string(s.Close()); out != in {
			t.Fatalf("W8: %q came out of %q", out, in)
		}
		feeds(t, made(t, v), in, true, append(tokens, api.End)...)
	}
}
