package bpe_test

import (
	"bytes"
	"slices"
	"strconv"
	"strings"
	"testing"

	"augur/api"
	"augur/bpe"
	"augur/testaid"
)

// written: tokens as a string, a letter each.
func written(tokens ...int) string {
	out := ""
	for _, token := range tokens {
		out += string(rune('0' + token))
	}
	return out
}

// goneOn: the chapter's rule, with the pairs from number from on: again and again the first pair that stands somewhere is replaced everywhere.
func goneOn(v api.Vocab, from int, list string) string {
	for {
		j := from
		for j < len(v.Pairs) && !strings.Contains(list, written(v.Pairs[j][:]...)) {
			j++
		}
		if j == len(v.Pairs) {
			return list
		}
		list = strings.ReplaceAll(list, written(v.Pairs[j][:]...), written(len(v.Base)+j+1))
	}
}

// byByte: the text's base tokens, written.
func byByte(v api.Vocab, text []byte) string {
	out := make([]byte, len(text))
	for i, b := range text {
		out[i] = byte('1' + bytes.IndexByte(v.Base, b))
	}
	return string(out)
}

// someText: so many of the first few base bytes.
func someText(s *testaid.Source, v api.Vocab, n, few int) []byte {
	out := make([]byte, n)
	for i := range out {
		out[i] = v.Base[s.Below(min(few, len(v.Base)))]
	}
	return out
}

// encoded: what Encode answers, which must be no error.
func encoded(t *testing.T, v api.Vocab, text []byte) []int {
	t.Helper()
	list, e := bpe.Encode(v, text)
	if e != api.OK {
		t.Fatalf("P5.3: %v: Encode(%q): %d", v, text, e)
	}
	return list
}

func TestEncodeExamples(t *testing.T) {
	for text, want := range map[string][]int{
		"abcab": {5, 4}, "aab": {1, 4}, "aaa": {6, 1}, "aaaa": {6, 6}, "": nil,
		"a": {1}, "ba": {2, 1}, "abc": {5}, "cab": {3, 4}, "aabc": {1, 5}, "aaabc": {6, 5}, "cba": {3, 2, 1},
	} {
		if list := encoded(t, abc(), []byte(text)); !slices.Equal(list, want) {
			t.Errorf("P5.3: Encode(v, %q) = %v, want %v", text, list, want)
		}
	}
	if list, e := bpe.Encode(abc(), []byte("abd")); e != api.ErrByte || len(list) != 0 {
		t.Errorf("P5.3: Encode(v, \"abd\") = %v, %d", list, e)
	}
	if list := encoded(t, abc(), nil); len(list) != 0 {
		t.Errorf("P5.3: Encode(v, nil) = %v", list)
	}
}

func TestEncodeEarliestPairFirst(t *testing.T) {
	for _, c := range []struct {
		pairs [][2]int
		text  string
		want  []int
	}{
		{[][2]int{{1, 2}, {2, 3}}, "abc", []int{4, 3}},
		{[][2]int{{2, 3}, {1, 2}}, "abc", []int{1, 4}},
		{[][2]int{{2, 3}, {1, 2}}, "ababc", []int{5, 1, 4}},
		{[][2]int{{1, 1}, {1, 2}}, "aaab", []int{4, 5}},
		{[][2]int{{1, 2}, {1, 1}}, "aaab", []int{5, 4}},
		{[][2]int{{1, 2}, {4, 4}, {4, 3}}, "ababcabababc", []int{5, 3, 5, 6}},
		{[][2]int{{1, 2}, {4, 3}, {4, 4}}, "ababcabababc", []int{4, 5, 6, 5}},
		{[][2]int{{3, 3}, {1, 4}, {4, 2}}, "accbccb", []int{5, 2, 6}},
		{[][2]int{{3, 3}, {4, 2}, {1, 4}}, "accbccb", []int{1, 5, 5}},
		{[][2]int{{1, 1}, {1, 4}, {4, 1}}, "aaaaa", []int{4, 6}},
		{[][2]int{{1, 1}, {4, 4}, {4, 1}}, "aaaaaaa", []int{5, 6}},
	} {
		v := api.Vocab{Base: []byte("abc"), Pairs: c.pairs}
		if list := encoded(t, v, []byte(c.text)); !slices.Equal(list, c.want) {
			t.Errorf("P5.3: pairs %v: Encode(%q) = %v, want %v", c.pairs, c.text, list, c.want)
		}
	}
}

// Of a run of n like bytes each doubling leaves a single token behind if n is odd there.
func TestEncodeRuns(t *testing.T) {
	v := api.Vocab{Base: []byte("ab"), Pairs: [][2]int{{1, 1}, {3, 3}, {4, 4}, {5, 5}}}
	for n := range 200 {
		want := slices.Repeat([]int{6}, n/16)
		for i := 3; i >= 0; i-- {
			if n>>i&1 == 1 {
				want = append(want, []int{1, 3, 4, 5}[i])
			}
		}
		run := bytes.Repeat([]byte("a"), n)
		if list := encoded(t, v, run); !slices.Equal(list, want) {
			t.Errorf("P5.3: a run of %d: %v, want %v", n, list, want)
		}
		twice := slices.Concat(run, []byte("b"), run)
		if list := encoded(t, v, twice); !slices.Equal(list, slices.Concat(want, []int{2}, want)) {
			t.Errorf("P5.3: two runs of %d: %v", n, list)
		}
	}
}

func TestEncodeAgainstTheRule(t *testing.T) {
	s := testaid.Source(3)
	for _, v := range someVocabs() {
		for range 20 {
			text := someText(&s, v, s.Below(80), 1+s.Below(5))
			if list := encoded(t, v, text); written(list...) != goneOn(v, 0, byByte(v, text)) {
				t.Fatalf("P5.3: %v: Encode(%q) = %v, by the rule %q", v, text, list, goneOn(v, 0, byByte(v, text)))
			}
		}
	}
}

func TestEncodeLongTexts(t *testing.T) {
	s := testaid.Source(7)
	v := someVocab(&s, 3, 60)
	for _, n := range []int{1 << 10, 1<<16 - 1, 1 << 20} {
		text := someText(&s, v, n, 3)
		list := encoded(t, v, text)
		if b, e := bpe.Decode(v, list...); e != api.OK || !bytes.Equal(b, text) {
			t.Errorf("P5.3: a text of %d bytes does not come back: %d", n, e)
		}
		if n < 1<<12 && written(list...) != goneOn(v, 0, byByte(v, text)) {
			t.Errorf("P5.3: a text of %d bytes: %v", n, list)
		}
	}
	list := encoded(t, abc(), bytes.Repeat([]byte("abcab"), 300000))
	if !slices.Equal(list, slices.Repeat([]int{5, 4}, 300000)) {
		t.Errorf("P5.3: a long text: %d tokens", len(list))
	}
}

func TestEncodeWrongBytes(t *testing.T) {
	for _, v := range someVocabs() {
		for b := range 256 {
			list, e := bpe.Encode(v, []byte{byte(b)})
			if i := bytes.IndexByte(v.Base, byte(b)); i >= 0 && (e != api.OK || !slices.Equal(list, []int{i + 1})) {
				t.Fatalf("P5.3: %v: Encode of the byte %d: %v, %d", v, b, list, e)
			} else if i < 0 && (e != api.ErrByte || len(list) != 0) {
				t.Fatalf("P5.3: %v: Encode of the byte %d, no base byte: %v, %d", v, b, list, e)
			}
		}
	}
	text := []byte("abcabcaab")
	for i := range text {
		for _, b := range []byte{0, 'd', '`', 255} {
			bad := slices.Clone(text)
			bad[i] = b
			if list, e := bpe.Encode(abc(), bad); e != api.ErrByte || len(list) != 0 {
				t.Errorf("P5.3: Encode(%q) = %v, %d, want ErrByte", bad, list, e)
			}
		}
	}
}

func TestEncodeWrongVocabulary(t *testing.T) {
	for i, v := range testaid.WrongVocabs() {
		for _, text := range []string{"", "a", "\xff", "a\xffa"} {
			if list, e := bpe.Encode(v, []byte(text)); e != api.ErrVocab || len(list) != 0 {
				t.Errorf("P5.3: wrong vocabulary %d: Encode(%q) = %v, %d, want ErrVocab", i, text, list, e)
			}
		}
	}
}

func TestDecodeOfEncode(t *testing.T) {
	s := testaid.Source(13)
	for _, v := range someVocabs() {
		for range 20 {
			text := someText(&s, v, s.Below(200), 1+s.Below(48))
			list := encoded(t, v, text)
			if b, e := bpe.Decode(v, list...); e != api.OK || !bytes.Equal(b, text) {
				t.Fatalf("W8: %v: Decode of Encode(%q): %q, %d", v, text, b, e)
			}
			if len(list) > len(text) || slices.Contains(list, api.End) {
				t.Fatalf("P5.3: %v: Encode(%q) = %v: too many tokens, or End", v, text, list)
			}
			for i := 1; i < len(list); i++ {
				if slices.Contains(v.Pairs, [2]int{list[i-1], list[i]}) {
					t.Fatalf("P5.3: %v: Encode(%q) = %v: a pair stands at %d", v, text, list, i-1)
				}
			}
		}
	}
}

func TestEncodeWithPairsCutOff(t *testing.T) {
	s := testaid.Source(17)
	for _, v := range someVocabs() {
		text := someText(&s, v, 60, 4)
		whole := written(encoded(t, v, text)...)
		for n := range len(v.Pairs) + 1 {
			part := api.Vocab{Base: v.Base, Pairs: v.Pairs[:n]}
			list := written(encoded(t, part, text)...)
			if n == 0 && list != byByte(v, text) {
				t.Fatalf("P5.3: without pairs Encode(%q) is %q", text, list)
			}
			if goneOn(v, n, list) != whole {
				t.Fatalf("P5.3: %v: Encode(%q) going on behind %s pairs is %q, of the whole %q", v, text, strconv.Itoa(n), goneOn(v, n, list), whole)
			}
		}
	}
}
