package bpe_test

import (
	"bytes"
	"iter"
	"math"
	"slices"
	"strconv"
	"testing"

	"augur/api"
	"augur/bpe"
	"augur/testaid"
)

// bases: so many unlike base bytes from first on (round behind 255).
func bases(n int, first byte) []byte {
	out := []byte{}
	for i := range n {
		out = append(out, first+byte(i))
	}
	return out
}

// right: the chapter's rule, with sets in place of comparing all with all.
func right(v api.Vocab) bool {
	if len(v.Base) < 1 || len(v.Base) > 48 || 1+len(v.Base)+len(v.Pairs) > 64 {
		return false
	}
	seen := map[byte]bool{}
	for _, b := range v.Base {
		seen[b] = true
	}
	pairs := map[[2]int]bool{}
	for j, p := range v.Pairs {
		pairs[p] = true
		own := len(v.Base) + j + 1
		if p[0] < 1 || p[1] < 1 || p[0] >= own || p[1] >= own {
			return false
		}
		if len(testaid.Spelled(api.Vocab{Base: v.Base, Pairs: v.Pairs[:j+1]}, own)) > 16 {
			return false
		}
	}
	return len(seen) == len(v.Base) && len(pairs) == len(v.Pairs)
}

// someVocab: a right vocabulary of so many base bytes and up to so many pairs.
func someVocab(s *testaid.Source, base, pairs int) api.Vocab {
	v := api.Vocab{Base: bases(base, byte(s.Below(256)))}
	for range 4 * pairs {
		own := base + len(v.Pairs) + 1
		p := [2]int{1 + s.Below(own-1), 1 + s.Below(own-1)}
		w := with(v, p)
		if len(v.Pairs) < pairs && right(w) {
			v = w
		}
	}
	return v
}

// with: the vocabulary with further pairs.
func with(v api.Vocab, pairs ...[2]int) api.Vocab {
	return api.Vocab{Base: slices.Clone(v.Base), Pairs: slices.Concat(v.Pairs, pairs)}
}

// abc: the vocabulary of the chapter's examples.
func abc() api.Vocab {
	return api.Vocab{Base: []byte("abc"), Pairs: [][2]int{{1, 2}, {4, 3}, {1, 1}}}
}

// someVocabs: vocabularies of all kinds, all of them right.
func someVocabs() []api.Vocab {
	s := testaid.Source(5)
	out := []api.Vocab{abc(), {Base: []byte{0}}, {Base: bases(48, 230)}}
	for range 60 {
		base := 1 + s.Below(6)
		out = append(out, someVocab(&s, base, s.Below(64-base)))
	}
	for range 20 {
		base := 1 + s.Below(48)
		out = append(out, someVocab(&s, base, 63-base))
	}
	return out
}

// isRight: Check and Size must say so.
func isRight(t *testing.T, what string, v api.Vocab) {
	t.Helper()
	if e, n := bpe.Check(v), bpe.Size(v); e != api.OK || n != 1+len(v.Base)+len(v.Pairs) {
		t.Errorf("P5.1: %s: Check %d, Size %d, want it to be right", what, e, n)
	}
}

func isWrong(t *testing.T, what string, v api.Vocab) {
	t.Helper()
	if e, n := bpe.Check(v), bpe.Size(v); e != api.ErrVocab || n != 0 {
		t.Errorf("P5.1: %s: Check %d, Size %d, want %d, 0", what, e, n, api.ErrVocab)
	}
}

func TestCheckExamples(t *testing.T) {
	isRight(t, "v", abc())
	if n := bpe.Size(abc()); n != 7 {
		t.Errorf("P5.1: Size(v) = %d", n)
	}
	isWrong(t, "one more pair 4 3", with(abc(), [2]int{4, 3}))
	isWrong(t, "a pair 8 1", with(abc(), [2]int{8, 1}))
	isWrong(t, "a pair 0 1", with(abc(), [2]int{0, 1}))
	isWrong(t, "a second base byte a", api.Vocab{Base: []byte("aabc")})
	isWrong(t, "a second base byte a behind all", api.Vocab{Base: []byte("abca"), Pairs: abc().Pairs})
	isWrong(t, "without base bytes", api.Vocab{Pairs: abc().Pairs})
	powers := api.Vocab{Base: []byte("a"), Pairs: [][2]int{{1, 1}, {2, 2}, {3, 3}, {4, 4}}}
	isRight(t, "16 bytes", powers)
	isWrong(t, "32 bytes", with(powers, [2]int{5, 5}))
}

func TestCheckBase(t *testing.T) {
	isWrong(t, "the zero value", api.Vocab{})
	isWrong(t, "lists without elements", api.Vocab{Base: []byte{}, Pairs: [][2]int{}})
	for n := range 258 {
		v := api.Vocab{Base: bases(n, 7)}
		if n >= 1 && n <= api.MaxBase {
			isRight(t, strconv.Itoa(n)+" base bytes", v)
		} else {
			isWrong(t, strconv.Itoa(n)+" base bytes", v)
		}
	}
	isWrong(t, "very many base bytes", api.Vocab{Base: make([]byte, 1<<24)})
	for n := 2; n <= api.MaxBase; n += 23 {
		for j := range n {
			for i := range j {
				v := api.Vocab{Base: bases(n, 0)}
				v.Base[j] = v.Base[i]
				isWrong(t, "two base bytes alike", v)
			}
		}
	}
}

func TestCheckPairTokens(t *testing.T) {
	v := api.Vocab{Base: []byte("xy"), Pairs: [][2]int{{1, 2}, {2, 1}, {3, 3}, {2, 4}}}
	isRight(t, "before", v)
	for j := range v.Pairs {
		own := len(v.Base) + 1 + j
		for _, token := range []int{math.MinInt, -1 << 32, -own, -1, 0, own, own + 1, 7, 64, 1 << 32, 1<<32 + 1, math.MaxInt} {
			for side := range 2 {
				w := with(v)
				w.Pairs[j][side] = token
				isWrong(t, "pair "+strconv.Itoa(j+1)+" with token "+strconv.Itoa(token), w)
			}
			w := with(v)
			w.Pairs[j] = [2]int{token, token}
			isWrong(t, "pair "+strconv.Itoa(j+1)+" with twice the token "+strconv.Itoa(token), w)
		}
	}
	for own := 3; own <= 6; own++ {
		isRight(t, "the token just below", api.Vocab{Base: v.Base, Pairs: with(api.Vocab{Pairs: v.Pairs[:own-3]}, [2]int{own - 1, 1}).Pairs})
		isRight(t, "the token just below, second", api.Vocab{Base: v.Base, Pairs: with(api.Vocab{Pairs: v.Pairs[:own-3]}, [2]int{1, own - 1}).Pairs})
	}
	isWrong(t, "a pair of base tokens with no base byte for the second", api.Vocab{Base: []byte("x"), Pairs: [][2]int{{1, 2}}})
}

func TestCheckPairsAlike(t *testing.T) {
	v := api.Vocab{Base: []byte("xyz"), Pairs: [][2]int{{1, 2}, {2, 1}, {1, 1}, {3, 3}, {1, 3}}}
	isRight(t, "pairs the other way round", v)
	for j := range v.Pairs {
		for i := range j {
			w := with(v)
			w.Pairs[j] = w.Pairs[i]
			isWrong(t, "two pairs alike", w)
		}
	}
	isRight(t, "two tokens with the same bytes", api.Vocab{Base: []byte("a"), Pairs: [][2]int{{1, 1}, {1, 2}, {2, 1}}})
}

// filled: so many base bytes, and pairs till there are so many tokens.
func filled(base, tokens int) api.Vocab {
	v := api.Vocab{Base: bases(base, 100)}
	for first := 1; 1+base+len(v.Pairs) < tokens; first++ {
		for second := 1; second <= first && 1+base+len(v.Pairs) < tokens; second++ {
			if w := with(v, [2]int{first, second}); len(testaid.Spelled(w, base+len(w.Pairs))) <= 16 {
				v = w
			}
		}
	}
	return v
}

func TestCheckTokens(t *testing.T) {
	for base := 1; base <= api.MaxBase; base++ {
		name := strconv.Itoa(base) + " base bytes, "
		isRight(t, name+"MaxVocab - 1 tokens", filled(base, api.MaxVocab-1))
		isRight(t, name+"MaxVocab tokens", filled(base, api.MaxVocab))
		isWrong(t, name+"MaxVocab + 1 tokens", filled(base, api.MaxVocab+1))
	}
	isWrong(t, "MaxBase + 1 base bytes and a pair", filled(api.MaxBase+1, api.MaxBase+3))
	isWrong(t, "very many pairs", api.Vocab{Base: []byte("a"), Pairs: make([][2]int, 1<<20)})
}

func TestCheckPiece(t *testing.T) {
	// chain's last token has n bytes.
	chain := func(n int, pair func(int) [2]int) api.Vocab {
		v := api.Vocab{Base: []byte("a")}
		for i := 2; i <= n; i++ {
			v.Pairs = append(v.Pairs, pair(i-1))
		}
		return v
	}
	first := func(last int) [2]int { return [2]int{last, 1} }
	second := func(last int) [2]int { return [2]int{1, last} }
	for n := 1; n <= 40; n++ {
		for _, pair := range []func(int) [2]int{first, second} {
			if v := chain(n, pair); n <= api.MaxPiece {
				isRight(t, strconv.Itoa(n)+" bytes", v)
			} else {
				isWrong(t, strconv.Itoa(n)+" bytes", v)
			}
		}
	}
	v := chain(16, first)
	isWrong(t, "17 bytes, and a short token behind", with(v, [2]int{16, 1}, [2]int{1, 2}))
	isWrong(t, "17 bytes of two long ones", with(v, [2]int{8, 9}))
	isRight(t, "16 bytes of two long ones", with(v, [2]int{8, 8}))
	double := api.Vocab{Base: []byte("a")}
	for i := 1; i < 63; i++ {
		double.Pairs = append(double.Pairs, [2]int{i, i})
	}
	isWrong(t, "2 to the 62 bytes", double)
}

// spoilt: a vocabulary with one thing changed, which may be right still.
func spoilt(s *testaid.Source, v api.Vocab) api.Vocab {
	w := with(v)
	switch s.Below(4) {
	case 0:
		w.Base[s.Below(len(w.Base))] = byte(s.Below(256))
	case 1:
		w.Base = append(w.Base, byte(s.Below(256)))
	case 2:
		w.Pairs = append(w.Pairs, [2]int{s.Below(bpe.Size(v) + 2), s.Below(bpe.Size(v) + 2)})
	default:
		if len(w.Pairs) > 0 {
			w.Pairs[s.Below(len(w.Pairs))][s.Below(2)] = s.Below(bpe.Size(v)+2) - 1
		}
	}
	return w
}

func TestCheckAgainstTheRule(t *testing.T) {
	s := testaid.Source(9)
	yes, no := 0, 0
	for i, v := range someVocabs() {
		isRight(t, "vocabulary "+strconv.Itoa(i), v)
		for range 40 {
			if w := spoilt(&s, v); right(w) {
				isRight(t, "changed", w)
				yes++
			} else {
				isWrong(t, "changed", w)
				no++
			}
		}
	}
	if yes < 100 || no < 100 {
		t.Errorf("too few of one kind: %d right, %d wrong", yes, no)
	}
}

// badTokens: what is no token of a vocabulary of that size.
func badTokens(size int) []int {
	return []int{math.MinInt, -1 << 32, -2, -1, size, size + 1, 1 << 32, 1<<32 + 1, math.MaxInt}
}

func TestBytes(t *testing.T) {
	for token, want := range []string{"", "a", "b", "c", "ab", "abc", "aa"} {
		if b, e := bpe.Bytes(abc(), token); e != api.OK || string(b) != want {
			t.Errorf("P5.2: Bytes(v, %d) = %q, %d, want %q", token, b, e, want)
		}
	}
	for _, v := range someVocabs() {
		for token := range bpe.Size(v) {
			if b, e := bpe.Bytes(v, token); e != api.OK || string(b) != testaid.Spelled(v, token) {
				t.Fatalf("P5.2: %v: Bytes(%d) = %q, %d, want %q", v, token, b, e, testaid.Spelled(v, token))
			}
		}
		for _, token := range badTokens(bpe.Size(v)) {
			if b, e := bpe.Bytes(v, token); e != api.ErrToken || len(b) != 0 {
				t.Fatalf("P5.2: Bytes(%d) = %q, %d, want ErrToken", token, b, e)
			}
		}
	}
	for i, v := range testaid.WrongVocabs() {
		for token := -1; token <= 65; token++ {
			if b, e := bpe.Bytes(v, token); e != api.ErrVocab || len(b) != 0 {
				t.Errorf("P5.2: wrong vocabulary %d: Bytes(%d) = %q, %d, want ErrVocab", i, token, b, e)
			}
		}
	}
}

func TestDecodeExamples(t *testing.T) {
	if b, e := bpe.Decode(abc(), 6, 0, 2); e != api.OK || string(b) != "aab" {
		t.Errorf("P5.4: Decode(v, 6, 0, 2) = %q, %d", b, e)
	}
	for _, tokens := range [][]int{{1, 7}, {-1}} {
		if b, e := bpe.Decode(abc(), tokens...); e != api.ErrToken || len(b) != 0 {
			t.Errorf("P5.4: Decode(v, %v) = %q, %d", tokens, b, e)
		}
	}
	for _, tokens := range [][]int{nil, {}, {0}, {0, 0, 0}} {
		if b, e := bpe.Decode(abc(), tokens...); e != api.OK || len(b) != 0 {
			t.Errorf("P5.4: Decode(v, %v) = %q, %d", tokens, b, e)
		}
	}
}

func TestDecode(t *testing.T) {
	s := testaid.Source(11)
	for _, v := range someVocabs() {
		for _, n := range []int{1, 2, 3, 17, 300} {
			tokens, want := []int{}, ""
			for range n {
				token := s.Below(bpe.Size(v))
				tokens, want = append(tokens, token), want+testaid.Spelled(v, token)
			}
			if b, e := bpe.Decode(v, tokens...); e != api.OK || string(b) != want {
				t.Fatalf("P5.4: %v: Decode(%v) = %q, %d, want %q", v, tokens, b, e, want)
			}
			at := []int{0, n - 1, s.Below(n)}
			for _, token := range badTokens(bpe.Size(v)) {
				for _, i := range at {
					bad := slices.Clone(tokens)
					bad[i] = token
					if b, e := bpe.Decode(v, bad...); e != api.ErrToken || len(b) != 0 {
						t.Fatalf("P5.4: Decode with %d at %d of %d: %q, %d, want ErrToken", token, i, n, b, e)
					}
				}
			}
		}
	}
	many := slices.Repeat([]int{5, 0, 6}, 200000)
	if b, e := bpe.Decode(abc(), many...); e != api.OK || !bytes.Equal(b, bytes.Repeat([]byte("abcaa"), 200000)) {
		t.Errorf("P5.4: Decode of many tokens: %d bytes, %d", len(b), e)
	}
	for i, v := range testaid.WrongVocabs() {
		for _, tokens := range [][]int{nil, {0}, {1}, {-1}, {64}} {
			if b, e := bpe.Decode(v, tokens...); e != api.ErrVocab || len(b) != 0 {
				t.Errorf("P5.4: wrong vocabulary %d: Decode(%v) = %q, %d, want ErrVocab", i, tokens, b, e)
			}
		}
	}
}

// goneThrough holds the first n tokens of an iterator against the vocabulary's, and leaves behind them; n above its size goes through the whole.
func goneThrough(t *testing.T, all iter.Seq2[int, []byte], v api.Vocab, n int) {
	t.Helper()
	got := 0
	for token, b := range all {
		if token != got || string(b) != testaid.Spelled(v, token) {
			t.Fatalf("P5.5: %v: in place %d: %d, %q, want %q", v, got, token, b, testaid.Spelled(v, got))
		}
		got++
		if got == n {
			break
		}
	}
	if got != min(n, 1+len(v.Base)+len(v.Pairs)) {
		t.Fatalf("P5.5: %v: %d tokens", v, got)
	}
}

func TestAll(t *testing.T) {
	for _, v := range someVocabs() {
		all := bpe.All(v)
		size := bpe.Size(v)
		goneThrough(t, all, v, size+1)
		for n := 1; n <= size; n++ {
			goneThrough(t, all, v, n)
		}
		goneThrough(t, all, v, size+1)
		goneThrough(t, bpe.All(v), v, size+1)
	}
	for i, v := range testaid.WrongVocabs() {
		for token, b := range bpe.All(v) {
			t.Errorf("P5.5: wrong vocabulary %d has %d, %q", i, token, b)
		}
	}
}

func TestAllTwoAtOnce(t *testing.T) {
	v := abc()
	all := bpe.All(v)
	first, stopFirst := iter.Pull2(all)
	defer stopFirst()
	second, stopSecond := iter.Pull2(all)
	defer stopSecond()
	is := func(next func() (int, []byte, bool), token int) {
		t.Helper()
		if got, b, ok := next(); !ok || got != token || string(b) != testaid.Spelled(v, token) {
			t.Errorf("P5.5: two at once: %d, %q, %v, want %d", got, b, ok, token)
		}
	}
	for token := range 4 {
		goneThrough(t, all, v, 8)
		is(first, token)
		is(second, token)
	}
	stopSecond()
	for token := 4; token < 7; token++ {
		is(first, token)
	}
	if got, b, ok := first(); ok {
		t.Errorf("P5.5: behind the last token: %d, %q", got, b)
	}
}
