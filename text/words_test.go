package text_test

import (
	"math"
	"strings"
	"testing"

	"augur/api"
	"augur/testaid"
	"augur/text"
)

// The chapter's words, said a second time: over all that came since the beginning, looking everywhere.

// between: is the byte one of these, the bounds among them?
func between(b, low, high byte) bool { return low <= b && b <= high }

// isBeginning: a rune's beginning.
func isBeginning(part string) bool {
	if part == "" {
		return false
	}
	whole := 0
	switch {
	case between(part[0], 0xc2, 0xdf):
		whole = 2
	case between(part[0], 0xe0, 0xef):
		whole = 3
	case between(part[0], 0xf0, 0xf4):
		whole = 4
	}
	if len(part) >= whole {
		return false
	}
	for _, b := range []byte(part[1:]) {
		if !between(b, 0x80, 0xbf) {
			return false
		}
	}
	if len(part) == 1 {
		return true
	}
	switch part[0] {
	case 0xe0:
		return between(part[1], 0xa0, 0xbf)
	case 0xed:
		return between(part[1], 0x80, 0x9f)
	case 0xf0:
		return between(part[1], 0x90, 0xbf)
	case 0xf4:
		return between(part[1], 0x80, 0x8f)
	}
	return true
}

// firstStop: where the first stop begins and ends; false, if there is none.
func firstStop(came string, stops []string) (int, int, bool) {
	for n := range len(came) + 1 {
		length := 0
		for _, stop := range stops {
			if strings.HasSuffix(came[:n], stop) && len(stop) > length {
				length = len(stop)
			}
		}
		if length > 0 {
			return n - length, n, true
		}
	}
	return 0, 0, false
}

// waitsOf: how many of the last bytes of what came wait.
func waitsOf(came string, stops []string) int {
	h, r := 0, 0
	for n := range len(came) + 1 {
		for _, stop := range stops {
			if n < len(stop) && came[len(came)-n:] == stop[:n] {
				h = n
			}
		}
	}
	ahead := came[:len(came)-h]
	for n := 0; n <= 3 && n <= len(ahead); n++ {
		if isBeginning(ahead[len(ahead)-n:]) {
			r = n
		}
	}
	return h + r
}

// told: a stream as the words tell it.
type told struct {
	v     api.Vocab
	stops []string
	came  string
	out   string // all that was given out
	over  bool
}

// text: that of the stream.
func (w *told) text() string {
	if begin, _, is := firstStop(w.came, w.stops); is {
		return w.came[:begin]
	}
	return w.came
}

// give: what is given out now, so that all but what waits has been.
func (w *told) give(t *testing.T) string {
	t.Helper()
	all := w.text()
	if !w.over {
		all = all[:len(all)-waitsOf(w.came, w.stops)]
	}
	if !strings.HasPrefix(all, w.out) {
		t.Fatalf("the words contradict themselves: %q came to %q, of which %q was given out", w.came, w.stops, w.out)
	}
	piece := all[len(w.out):]
	w.out = all
	return piece
}

// feed: tokens that are right come.
func (w *told) feed(t *testing.T, tokens ...int) string {
	t.Helper()
	for _, token := range tokens {
		if w.over {
			break
		}
		w.came += testaid.Spelled(w.v, token)
		if _, end, is := firstStop(w.came, w.stops); is {
			w.came, w.over = w.came[:end], true
		}
		w.over = w.over || token == api.End
	}
	return w.give(t)
}

// close: the stream is closed.
func (w *told) close(t *testing.T) string {
	t.Helper()
	w.over = true
	return w.give(t)
}

// made: a stream, which there must be.
func made(t *testing.T, v api.Vocab, stops ...string) *text.Stream {
	t.Helper()
	s, e := text.New(v, stops...)
	if s == nil || e != api.OK {
		t.Fatalf("P18.1: New(%v, %q) = %v, %d, want a stream", v, stops, s, e)
	}
	return s
}

// refused: New answers an error, and no stream.
func refused(t *testing.T, v api.Vocab, want api.Errno, stops ...string) {
	t.Helper()
	if s, e := text.New(v, stops...); s != nil || e != want {
		t.Errorf("P18.1: New of %d stops = %v, %d, want nil, %d", len(stops), s, e, want)
	}
}

// first: the first ones of a list, as many as are good to read.
func first[T any](list []T) []T { return list[:min(len(list), 40)] }

// feeds: Feed gives out just this, and the stream is over behind it or not.
func feeds(t *testing.T, s *text.Stream, want string, over bool, tokens ...int) {
	t.Helper()
	if b, e := s.Feed(tokens...); string(b) != want || e != api.OK || s.Over() != over {
		t.Fatalf("P18.2: Feed(%v) = %q, %d bytes, %d, Over: %v; want %q, %d bytes, Over: %v", first(tokens), first(b), len(b), e, s.Over(), first([]byte(want)), len(want), over)
	}
}

// closes: Close gives out just this.
func closes(t *testing.T, s *text.Stream, want string) {
	t.Helper()
	if b := s.Close(); string(b) != want || !s.Over() {
		t.Fatalf("P18.3: Close() = %q, Over: %v; want %q", b, s.Over(), want)
	}
}

// fails: Feed answers an error and nothing else, and the stream is over as before.
func fails(t *testing.T, s *text.Stream, want api.Errno, tokens ...int) {
	t.Helper()
	over := s.Over()
	if b, e := s.Feed(tokens...); len(b) != 0 || e != want || s.Over() != over {
		t.Fatalf("P18.2: Feed(%v) = %q, %d, Over: %v; want the error %d", first(tokens), first(b), e, s.Over(), want)
	}
}

// pair: a stream and what the words tell of it.
type pair struct {
	s *text.Stream
	w *told
}

// paired: one to which nothing came.
func paired(t *testing.T, v api.Vocab, stops ...string) pair {
	t.Helper()
	return pair{made(t, v, stops...), &told{v: v, stops: stops}}
}

// feed: both are fed, and tell the same.
func (p pair) feed(t *testing.T, tokens ...int) {
	t.Helper()
	want := p.w.feed(t, tokens...)
	if b, e := p.s.Feed(tokens...); string(b) != want || e != api.OK || p.s.Over() != p.w.over {
		t.Fatalf("P18.2: stops %q, %q came: Feed(%v) = %q, %d, Over: %v; want %q, Over: %v", p.w.stops, p.w.came, tokens, b, e, p.s.Over(), want, p.w.over)
	}
}

// close: both are closed, and tell the same.
func (p pair) close(t *testing.T) {
	t.Helper()
	want := p.w.close(t)
	if b := p.s.Close(); string(b) != want || !p.s.Over() {
		t.Fatalf("P18.3: stops %q, %q came: Close() = %q, Over: %v; want %q", p.w.stops, p.w.came, b, p.s.Over(), want)
	}
}

// oneByOne: the tokens come each by a Feed of its own, and then comes what ends the stream.
func (p pair) oneByOne(t *testing.T, tokens ...int) {
	t.Helper()
	for _, token := range tokens {
		p.feed(t, token)
	}
	p.close(t)
}

// signs: the vocabulary of the chapter's examples.
func signs() api.Vocab { return testaid.Vocab("abcd\xe2\x82\xac") }

// byByte: the base tokens of a text.
func byByte(t *testing.T, v api.Vocab, bytes string) []int {
	t.Helper()
	tokens := make([]int, len(bytes))
	for i := range tokens {
		tokens[i] = 1 + strings.IndexByte(string(v.Base), bytes[i])
		if tokens[i] == 0 {
			t.Fatalf("%q is no base byte of %q", bytes[i:i+1], v.Base)
		}
	}
	return tokens
}

// wrongTokens: what is no token of a vocabulary of so many.
func wrongTokens(size int) []int {
	return []int{math.MinInt, math.MinInt32, -1 << 32, -2, -1, size, size + 1, 64, 255, 256, 1 << 31, 1 << 32, 1<<32 + 1, math.MaxInt}
}

// allTexts: of at most so many of the letters.
func allTexts(most int, letters string) []string {
	all := []string{""}
	for from := 0; most > 0; most-- {
		end := len(all)
		for _, short := range all[from:end] {
			for i := range len(letters) {
				all = append(all, short+letters[i:i+1])
			}
		}
		from = end
	}
	return all
}

// someBytes: so many of the letters.
func someBytes(s *testaid.Source, n int, letters string) string {
	out := make([]byte, n)
	for i := range out {
		out[i] = letters[s.Below(len(letters))]
	}
	return string(out)
}

// someStops: up to four, of the letters; alike ones and such as begin alike among them.
func someStops(s *testaid.Source, letters string) []string {
	var stops []string
	for range s.Below(5) {
		stop := someBytes(s, 1+s.Below(5), letters)
		switch s.Below(6) {
		case 0:
			stop = someBytes(s, 16, letters)
		case 1:
			if len(stops) > 0 {
				stop = stops[0] + stop
			}
		case 2:
			if len(stops) > 0 {
				stop += stops[len(stops)-1]
			}
		}
		stops = append(stops, stop[:min(16, len(stop))])
	}
	return stops
}

// someTokens: so many of a vocabulary; ends among them, if they are wanted.
func someTokens(s *testaid.Source, v api.Vocab, n int, ends bool) []int {
	out := make([]int, n)
	for i := range out {
		out[i] = 1 + s.Below(testaid.Tokens(v)-1)
		if ends && s.Below(30) == 0 {
			out[i] = api.End
		}
	}
	return out
}

// cut: a list cut into some pieces, of which some have no elements.
func cut(s *testaid.Source, tokens []int) [][]int {
	var out [][]int
	for len(tokens) > 0 {
		n := s.Below(min(len(tokens), 5) + 1)
		out = append(out, tokens[:n:n])
		tokens = tokens[n:]
	}
	return append(out, nil)
}
