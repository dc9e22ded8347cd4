package text_test

import (
	"slices"
	"strings"
	"testing"

	"augur/api"
	"augur/testaid"
	"augur/text"
)

func TestNewExamples(t *testing.T) {
	refused(t, signs(), api.ErrStop, "")
	refused(t, signs(), api.ErrStop, "a", "b", "c", "d", "a")
	refused(t, signs(), api.ErrStop, strings.Repeat("a", 17))
}

// A new stream: nothing came, nothing waits, and it is not over.
func TestNewStream(t *testing.T) {
	for _, stops := range [][]string{nil, {}, {"a"}, {"ab", "b"}} {
		s := made(t, signs(), stops...)
		feeds(t, s, "", false)
		feeds(t, s, "", false)
		closes(t, s, "")
		closes(t, made(t, signs(), stops...), "")
	}
}

// The vocabulary's error comes ahead of that of the stops.
func TestWrongVocabulary(t *testing.T) {
	for _, v := range testaid.WrongVocabs() {
		refused(t, v, api.ErrVocab)
		refused(t, v, api.ErrVocab, "a")
		refused(t, v, api.ErrVocab, "")
		refused(t, v, api.ErrVocab, "a", "b", "c", "d", "a")
		refused(t, v, api.ErrVocab, strings.Repeat("a", 17))
		refused(t, v, api.ErrVocab, strings.Repeat("a", 1<<20))
	}
}

func TestHowManyStops(t *testing.T) {
	for n := range 4 + 1 {
		made(t, signs(), slices.Repeat([]string{"a"}, n)...)
		made(t, signs(), slices.Repeat([]string{strings.Repeat("z", 16)}, n)...)
	}
	for _, n := range []int{5, 6, 8, 16, 255, 256, 257, 260, 1 << 16, 1<<16 + 1, 1 << 20} {
		refused(t, signs(), api.ErrStop, slices.Repeat([]string{"a"}, n)...)
	}
}

// Each length, at each place among others that may be.
func TestHowLongStops(t *testing.T) {
	for n := 1; n <= 16; n++ {
		for many := 1; many <= 4; many++ {
			for at := range many {
				stops := slices.Repeat([]string{"a"}, many)
				stops[at] = strings.Repeat("b", n)
				made(t, signs(), stops...)
			}
		}
	}
	for _, n := range []int{0, 17, 18, 32, 255, 256, 257, 272, 1 << 16, 1<<16 + 1, 1 << 24} {
		for many := 1; many <= 4; many++ {
			for at := range many {
				stops := slices.Repeat([]string{"a"}, many)
				stops[at] = strings.Repeat("b", n)
				refused(t, signs(), api.ErrStop, stops...)
			}
		}
	}
	refused(t, signs(), api.ErrStop, "", "", "", "")
	refused(t, signs(), api.ErrStop, "", strings.Repeat("b", 17))
}

// Bytes are counted, not runes.
func TestStopsAreBytes(t *testing.T) {
	made(t, signs(), strings.Repeat("€", 5)+"a")
	refused(t, signs(), api.ErrStop, strings.Repeat("€", 5)+"ab")
	refused(t, signs(), api.ErrStop, strings.Repeat("é", 9))
}

// A stop string may hold any bytes, those too that no token has, and stops may be alike.
func TestStopsOfAnyBytes(t *testing.T) {
	for b := range 256 {
		one := string([]byte{byte(b)})
		v := api.Vocab{Base: []byte{byte(b), byte(b + 1)}}
		s := made(t, v, one, one)
		feeds(t, s, "", true, 1, 2)
		s = made(t, v, one+one, one+one, one+one)
		feeds(t, s, "", false, 1)
		feeds(t, s, "", true, 1)
		other := string([]byte{byte(b + 1)})
		s = made(t, testaid.Vocab(one), other)
		feeds(t, s, one, true, 1, 0)
	}
}

// What is not a stream (R3).
func TestNilStream(t *testing.T) {
	var s *text.Stream
	for _, tokens := range [][]int{nil, {}, {0}, {1}, {-1}, {1 << 40}, {1, 2, 3}} {
		for range 2 {
			fails(t, s, api.ErrArg, tokens...)
			if b := s.Close(); len(b) != 0 || s.Over() {
				t.Errorf("R3: Close of a nil stream: %q, Over: %v", b, s.Over())
			}
		}
	}
}

// As many tokens, and bytes of a token, as there may be.
func TestGreatestVocabularies(t *testing.T) {
	full := testaid.Vocab(testaid.Letters(48))
	for i := range 15 {
		full.Pairs = append(full.Pairs, [2]int{1 + i, 2 + i})
	}
	long := testaid.Vocab("ab", [2]int{1, 1}, [2]int{3, 3}, [2]int{4, 4}, [2]int{5, 5})
	for _, v := range []api.Vocab{full, long, testaid.Vocab("a")} {
		var tokens []int
		want := ""
		for token := 1; token < testaid.Tokens(v); token++ {
			tokens = append(tokens, token)
			want += testaid.Spelled(v, token)
		}
		feeds(t, made(t, v), want, false, tokens...)
		for _, token := range wrongTokens(testaid.Tokens(v)) {
			fails(t, made(t, v), api.ErrToken, token)
		}
	}
	if n := len(testaid.Spelled(long, 6)); n != api.MaxPiece || testaid.Tokens(full) != api.MaxVocab {
		t.Errorf("%d bytes, %d tokens", n, testaid.Tokens(full))
	}
}
