package text_test

import (
	"slices"
	"strings"
	"testing"

	"augur/api"
	"augur/testaid"
)

// turn: the bytes that are fed, what comes out, and whether the stream is over then.
type turn struct {
	in, out string
	over    bool
}

// goes: a stream of the examples' vocabulary goes by these turns, the tokens of each in one Feed.
func goes(t *testing.T, stops []string, turns ...turn) {
	t.Helper()
	s := made(t, signs(), stops...)
	for _, x := range turns {
		feeds(t, s, x.out, x.over, byByte(t, signs(), x.in)...)
	}
}

func TestFeedExamples(t *testing.T) {
	goes(t, []string{"bc"}, turn{"ab", "a", false}, turn{"b", "b", false}, turn{"d", "bd", false}, turn{"bcd", "", true}, turn{"a", "", true})
	goes(t, []string{"abc", "bd"}, turn{"ab", "", false}, turn{"d", "a", true})
	goes(t, []string{"ab", "dab"}, turn{"cdab", "c", true})
	goes(t, nil, turn{"a\xe2", "a", false}, turn{"\x82", "", false}, turn{"\xac", "\xe2\x82\xac", false}, turn{"\xe2a", "\xe2a", false}, turn{"\xe2\x82", "", false})
	goes(t, []string{"\xaca"}, turn{"\xe2\x82\xac", "", false}, turn{"b", "\xe2\x82\xacb", false})
}

func TestCloseExamples(t *testing.T) {
	s := made(t, signs())
	feeds(t, s, "", false, 5, 6)
	closes(t, s, "\xe2\x82")
	s = made(t, signs(), "ab")
	feeds(t, s, "", false, 1)
	closes(t, s, "a")
	s = made(t, signs(), "ab")
	feeds(t, s, "a", true, 1, 0)
	closes(t, s, "")
	s = made(t, signs(), "ab")
	fails(t, s, api.ErrToken, 1, 8)
	closes(t, s, "")
}

// Of several stops that end at one place the longest counts, in whatever order they were given; one that ends earlier counts ahead of a longer one.
func TestWhichStop(t *testing.T) {
	for _, c := range []struct {
		stops    []string
		in, text string
	}{
		{[]string{"ab", "dab", "b"}, "cdab", "c"},
		{[]string{"b", "ab"}, "dab", "d"},
		{[]string{"a", "abcd"}, "dabcd", "d"},
		{[]string{"abcd", "c"}, "dabcd", "dab"},
		{[]string{"abcd", "bc", "abc"}, "dabcd", "d"},
		{[]string{"cd", "bcdc"}, "abcdc", "ab"},
		{[]string{"aa", "aaa"}, "baaaa", "b"},
		{[]string{"aab", "ab", "b", "daab"}, "daab", ""},
	} {
		for range len(c.stops) {
			c.stops = append(c.stops[1:], c.stops[0])
			goes(t, c.stops, turn{c.in, c.text, true}, turn{"abcd", "", true})
			p := paired(t, signs(), c.stops...)
			p.oneByOne(t, byByte(t, signs(), c.in)...)
			if p.w.out != c.text {
				t.Errorf("P18.2: stops %q: %q gives %q, want %q", c.stops, c.in, p.w.out, c.text)
			}
		}
	}
}

// A stop's beginning that fails may hold the beginning of another, or of the same.
func TestBeginningsWithin(t *testing.T) {
	goes(t, []string{"aab"}, turn{"aaa", "a", false}, turn{"aa", "aa", false}, turn{"b", "", true})
	goes(t, []string{"abac"}, turn{"aba", "", false}, turn{"b", "ab", false}, turn{"ac", "", true})
	goes(t, []string{"abcd", "bcb"}, turn{"abc", "", false}, turn{"b", "a", true})
	goes(t, []string{"abcd", "ca"}, turn{"abc", "", false}, turn{"c", "abc", false}, turn{"a", "", true})
	goes(t, []string{"aaaa"}, turn{"aaa", "", false}, turn{"b", "aaab", false}, turn{"aaaa", "", true})
	goes(t, []string{"abd", "bc"}, turn{"ab", "", false}, turn{"c", "a", true})
}

// A stop within one token, at its beginning, at its end, and over several tokens.
func TestStopsAndTokens(t *testing.T) {
	v := testaid.Vocab("abcd", [2]int{1, 2}, [2]int{3, 4}, [2]int{5, 6}, [2]int{7, 7}) // 5 ab, 6 cd, 7 abcd, 8 abcdabcd
	for _, c := range []struct {
		stop, text string
		tokens     []int
	}{
		{"bc", "a", []int{7}}, {"a", "", []int{8}}, {"d", "abc", []int{8}}, {"da", "abc", []int{8}}, {"da", "abc", []int{7, 7}}, {"dabcda", "abc", []int{7, 8}},
		{"cdab", "ab", []int{5, 6, 5}}, {"bcda", "a", []int{5, 6, 1, 2}}, {"abcdabcdabcdabcd", "", []int{8, 8}}, {"bcdabcdabcdabcda", "a", []int{8, 8, 8}}, {"dd", "abcdabc", []int{7, 7, 4, 1}},
	} {
		for n := range len(c.tokens) + 1 {
			p := paired(t, v, c.stop)
			p.feed(t, c.tokens[:n]...)
			p.feed(t, c.tokens[n:]...)
			if !p.s.Over() || p.w.out != c.text {
				t.Errorf("P18.2: stop %q, tokens %v: %q, Over: %v; want %q", c.stop, c.tokens, p.w.out, p.s.Over(), c.text)
			}
		}
	}
}

// Token 0 ends the stream: what waits is given out, what is behind is passed over.
func TestEnd(t *testing.T) {
	for _, c := range []struct {
		stops    []string
		in, text string
	}{
		{nil, "", ""}, {nil, "ab", "ab"}, {nil, "a\xe2\x82", "a\xe2\x82"}, {[]string{"ab"}, "cda", "cda"}, {[]string{"ab"}, "\xe2a", "\xe2a"}, {[]string{"abcd"}, "abc", "abc"},
	} {
		tokens := byByte(t, signs(), c.in)
		feeds(t, made(t, signs(), c.stops...), c.text, true, slices.Concat(tokens, []int{0})...)
		feeds(t, made(t, signs(), c.stops...), c.text, true, slices.Concat(tokens, []int{0, 1, 2, 0, 3, 0})...)
		p := paired(t, signs(), c.stops...)
		p.feed(t, tokens...)
		p.feed(t, 0, 2, 3)
		p.feed(t, 0)
		p.feed(t, 1, 2, 3, 4, 5)
		p.close(t)
		if p.w.out != c.text {
			t.Errorf("P18.2: %q and the end: %q", c.in, p.w.out)
		}
	}
	feeds(t, made(t, signs(), "ab"), "a", true, 1, 0, 2)    // a stop is not made over the end
	feeds(t, made(t, signs(), "ab"), "", true, 1, 2, 0)     // the stop came first
	feeds(t, made(t, signs(), "ab"), "", true, 0, 1, 2)     // the end came first
	feeds(t, made(t, signs()), "\xe2", true, 5, 0, 6, 7)    // nor is a rune
	feeds(t, made(t, signs(), "\x00"), "ab", true, 1, 2, 0) // the end is no byte 0
}

// A stream that is over stays so, and gives out nothing: by a stop, by the end, by Close, in whatever way it is asked.
func TestOver(t *testing.T) {
	for _, ends := range [][]int{{1, 2}, {1, 0}, {0}, {2, 1, 2, 3}, {}} {
		s := made(t, signs(), "ab")
		s.Feed(ends...)
		s.Close()
		for range 3 {
			for _, tokens := range [][]int{nil, {}, {0}, {1}, {1, 2}, {3, 4, 5, 6, 7}, {5}, {0, 0}} {
				feeds(t, s, "", true, tokens...)
			}
			closes(t, s, "")
			for _, token := range wrongTokens(8) {
				fails(t, s, api.ErrToken, token)
				fails(t, s, api.ErrToken, 1, token)
			}
		}
	}
}

// Each of the tokens must be one, wherever it stands: behind a stop and behind the end too; and nothing has come then.
func TestWrongTokens(t *testing.T) {
	for _, token := range wrongTokens(8) {
		for _, list := range [][]int{{token}, {token, 1}, {1, token}, {3, 1, 2, token}, {0, token}, {1, 0, 2, token}, {1, 2, 3, token, 4}, {5, 6, token}, {token, token}} {
			p := paired(t, signs(), "ab")
			fails(t, p.s, api.ErrToken, list...)
			p.feed(t)
			p.feed(t, 3, 1)
			fails(t, p.s, api.ErrToken, list...)
			p.feed(t, 1, 5)
			fails(t, p.s, api.ErrToken, list...)
			p.feed(t, 6)
			fails(t, p.s, api.ErrToken, list...)
			p.feed(t, 7, 1)
			fails(t, p.s, api.ErrToken, list...)
			p.feed(t, 2)
			fails(t, p.s, api.ErrToken, list...)
			if p.w.out != "caa\xe2\x82\xac" || !p.s.Over() {
				t.Fatalf("P18.2: what was refused came: %q", p.w.out)
			}
		}
	}
	v := testaid.Vocab("a")
	fails(t, made(t, v), api.ErrToken, 2)
	feeds(t, made(t, v), "a", false, 1)
	many := slices.Repeat([]int{1}, 1<<20)
	many[len(many)-1] = 2
	p := paired(t, v)
	fails(t, p.s, api.ErrToken, many...)
	p.feed(t)
	p.close(t)
}

// All short texts of two letters behind all sets of up to two short stops, byte by byte: as the words say.
func TestAllShortTexts(t *testing.T) {
	v := testaid.Vocab("ab")
	sets := [][]string{nil}
	short := allTexts(3, "ab")[1:]
	for i, one := range short {
		sets = append(sets, []string{one})
		for _, other := range short[:i+1] {
			sets = append(sets, []string{one, other}, []string{other, one})
		}
	}
	for _, stops := range sets {
		for _, in := range allTexts(7, "ab") {
			if len(in) == 7 { // the shorter ones are their beginnings
				paired(t, v, stops...).oneByOne(t, byByte(t, v, in)...)
			}
		}
	}
}

// The same with three letters and longer stops, drawn.
func TestDrawnTexts(t *testing.T) {
	s := testaid.Source(218)
	over, closed := 0, 0
	for range 20000 {
		letters := []string{"a", "ab", "abc", "abcd"}[s.Below(4)]
		v := s.Vocab(letters, s.Below(12))
		p := paired(t, v, someStops(&s, letters)...)
		for _, piece := range cut(&s, someTokens(&s, v, s.Below(24), true)) {
			p.feed(t, piece...)
		}
		if p.s.Over() {
			over++
		} else {
			closed++
		}
		p.close(t)
	}
	if over < 5000 || closed < 5000 {
		t.Errorf("too few of one kind: %d over by themselves, %d closed", over, closed)
	}
}

// A stop of each length, of like and of unlike bytes: all of it but the last byte waits.
func TestEachLengthOfStop(t *testing.T) {
	v := testaid.Vocab(testaid.Letters(20))
	for n := 1; n <= 16; n++ {
		for _, stop := range []string{testaid.Letters(n), strings.Repeat("0", n), strings.Repeat("0", n-1) + "1", "1" + strings.Repeat("0", n-1)} {
			tokens := byByte(t, v, stop)
			p := paired(t, v, stop)
			p.feed(t, 20)
			for _, token := range tokens[:n-1] {
				p.feed(t, token)
			}
			if p.w.out != testaid.Letters(20)[19:] {
				t.Errorf("P18.2: stop %q: %q was given out", stop, p.w.out)
			}
			q := paired(t, v, stop)
			q.feed(t, tokens[:n-1]...)
			q.feed(t, 20) // fails at the last byte
			q.feed(t, tokens...)
			p.feed(t, tokens[n-1])
			if !p.s.Over() || !q.s.Over() {
				t.Errorf("P18.4: stop %q: Over: %v, %v", stop, p.s.Over(), q.s.Over())
			}
		}
	}
}

// Four stops at once, each of which may be the one.
func TestFourStops(t *testing.T) {
	stops := []string{"abcdabcdabcdabcd", "bcda", "ddd", "cabb"}
	for at, stop := range stops {
		for range len(stops) {
			stops = append(stops[1:], stops[0])
			p := paired(t, signs(), stops...)
			p.oneByOne(t, byByte(t, signs(), "acdd"+stop+"ab")...)
			if want := []string{"acdda", "acdd", "ac", "acdd"}[at]; p.w.out != want {
				t.Errorf("P18.2: %q among %q: %q, want %q", stop, stops, p.w.out, want)
			}
		}
	}
}

// Very long texts: all comes out, in one Feed or in many.
func TestLongTexts(t *testing.T) {
	const many = 300000
	in := strings.Repeat("abd", many)
	tokens := slices.Repeat([]int{1, 2, 4}, many)
	feeds(t, made(t, signs(), "abc", "dabdc", "bdabdabdabdabdac"), in[:len(in)-14], false, tokens...)
	s := made(t, signs(), "abc")
	for range many {
		feeds(t, s, "", false, 1, 2)
		feeds(t, s, "abd", false, 4)
	}
	feeds(t, s, in, true, slices.Concat(tokens, []int{1, 2, 3}, tokens)...)
}
