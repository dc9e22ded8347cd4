package guide_test

import (
	"strings"
	"testing"

	"augur/api"
	"augur/guide"
	"augur/testaid"
)

func TestNewExamples(t *testing.T) {
	refused(t, small(), "c+", api.ErrGuide, 0)
	refused(t, small(), "a(", api.ErrRegex, 2)
	for _, expr := range []string{"", "a", "(ab)*", "c+", "a(", ".*a......"} {
		refused(t, testaid.Vocab(""), expr, api.ErrVocab, 0)
	}
	for _, expr := range []string{"(ab)*", "ac|b", ""} {
		made(t, small(), expr)
	}
}

// The vocabulary's error comes ahead of all others.
func TestWrongVocabulary(t *testing.T) {
	for _, v := range testaid.WrongVocabs() {
		for _, expr := range []string{"", "a", "a*", ".*", "c+", "(", "a)", "ab[", "*", "\x00", ".*a......", strings.Repeat("a", 65), strings.Repeat("(", 1<<20)} {
			refused(t, v, expr, api.ErrVocab, 0)
		}
	}
}

// Each of the expression's errors, with its place; that no word could be made of tokens either is not told.
func TestWrongExpression(t *testing.T) {
	for _, v := range []api.Vocab{small(), testaid.Vocab("z"), testaid.Vocab("(*"), testaid.Vocab(testaid.Letters(48))} {
		for expr, at := range map[string]int{
			"*a": 0, "a|*": 2, "(a": 2, "a)": 1, "a]": 1, "[]": 0, "[b-a]": 0, "x[a": 1, `[a-\d]`: 0, `\q`: 0, `a\`: 1, `\x4`: 0, `[^\x00-\xff]`: 0,
			"ab\x0a": 2, "\xff": 0, "ab]": 2, "c+(": 3, "ccc)": 3, strings.Repeat("a", 65): 64, strings.Repeat(")", 65): 64, strings.Repeat("(", 64): 64, strings.Repeat("a*", 1<<20): 64,
		} {
			refused(t, v, expr, api.ErrRegex, at)
		}
		for _, expr := range []string{".*a......", "[ab]*a......", ".*c......", "c.*c......"} {
			refused(t, v, expr, api.ErrStates, 0)
		}
	}
}

// No word can be made of tokens: each has a byte that the vocabulary lacks.
func TestNoWordOfTokens(t *testing.T) {
	pairs := testaid.Vocab("ab", [2]int{1, 2}, [2]int{2, 1}, [2]int{3, 4}, [2]int{5, 5}, [2]int{6, 6})
	for _, v := range []api.Vocab{testaid.Vocab("a"), testaid.Vocab("ba"), small(), pairs} {
		for _, expr := range []string{
			"c", "c+", "ac", "ca", "(a|b)*c", "ca|[^ab]", "a*ca*", "c|d|[e-z]", "(ab)+cab", "cab*", ".*c", ".*c.*", "ab?[^ab]", "a(b|c)*c", `\x00`, "A", "aB+",
			strings.Repeat("a", 62) + "c", strings.Repeat("(ab)*", 12) + "c",
		} {
			refused(t, v, expr, api.ErrGuide, 0)
		}
		for _, expr := range []string{"", "c*", "c?", "(c|)", "(cab)*", "a|c", "c|a+", "(a|c)+", "[a-z]", "[^c]", ".", ".*", ".*a", "c?a", "(c+|a)a*", strings.Repeat("a", 62) + "c?"} {
			made(t, v, expr)
		}
	}
	// One of a word's two bytes alone is not enough; both are, in whatever order the vocabulary has them.
	refused(t, testaid.Vocab("b"), "ab|ba", api.ErrGuide, 0)
	refused(t, testaid.Vocab("a"), "ab|ba", api.ErrGuide, 0)
	made(t, testaid.Vocab("ba"), "ab|ba")
	made(t, testaid.Vocab("ba", [2]int{1, 2}), "ab|ba")
	// Tokens that begin as a word does and go on otherwise neither help nor hinder.
	made(t, testaid.Vocab("xyz", [2]int{1, 2}, [2]int{4, 3}), "xyx")
	refused(t, testaid.Vocab("xy", [2]int{1, 2}, [2]int{3, 3}), "xyz", api.ErrGuide, 0)
}

// Each of the 256 bytes, as the only one of the vocabulary and of the expression.
func TestNewSingleBytes(t *testing.T) {
	const digits = "0123456789abcdef"
	for b := range 256 {
		expr := `\x` + digits[b>>4:b>>4+1] + digits[b&15:b&15+1]
		v := api.Vocab{Base: []byte{byte(b)}}
		g := made(t, v, expr)
		allows(t, g, 0, 2, 1)
		allows(t, g, 1, 2, 0)
		leads(t, g, 0, 1, 1)
		refused(t, v, "[^"+expr+"]", api.ErrGuide, 0)
		refused(t, api.Vocab{Base: []byte{byte(b + 1), byte(b + 255), byte(b ^ 128)}}, expr, api.ErrGuide, 0)
	}
}

func TestNewAgainstTheWords(t *testing.T) {
	s := testaid.Source(139)
	count := map[api.Errno]int{}
	for range 4000 {
		v := s.Vocab("abcd", s.Below(10))
		switch s.Below(12) {
		case 0:
			v.Base[0] = v.Base[len(v.Base)-1]
		case 1:
			v.Pairs = append(v.Pairs, [2]int{s.Below(testaid.Tokens(v) + 1), 1})
		}
		expr := someExpression(&s, 1+s.Below(12), "abcd")
		switch s.Below(8) {
		case 0:
			at := s.Below(len(expr) + 1)
			expr = expr[:at] + ")(*[]\\|\x7f"[s.Below(8):] + expr[at:]
		case 1:
			expr = "d+" + expr
		case 2:
			expr += "[^ab]c"
		}
		count[holds(t, v, expr)]++
	}
	for _, e := range []api.Errno{api.OK, api.ErrVocab, api.ErrRegex, api.ErrGuide} {
		if count[e] < 200 {
			t.Errorf("only %d of the drawn ones are told %d", count[e], e)
		}
	}
}

// As many tokens, bytes of a token, and states as there may be.
func TestNewGreatest(t *testing.T) {
	full := testaid.Vocab(testaid.Letters(48))
	for i := range 15 {
		full.Pairs = append(full.Pairs, [2]int{1 + i, 2 + i})
	}
	long := testaid.Vocab("ab", [2]int{1, 1}, [2]int{3, 3}, [2]int{4, 4}, [2]int{5, 5}, [2]int{5, 4}, [2]int{7, 3}, [2]int{8, 1}, [2]int{9, 2}, [2]int{1, 2})
	if n := len(testaid.Spelled(long, 6)); n != api.MaxPiece || testaid.Tokens(full) != api.MaxVocab || len(testaid.Spelled(long, 10)) != api.MaxPiece {
		t.Fatalf("%d bytes, %d tokens", n, testaid.Tokens(full))
	}
	for _, v := range []api.Vocab{full, long, testaid.Vocab("a"), testaid.Vocab("b"), small()} {
		for _, expr := range []string{
			".*a.....", ".*5.....", ".*[ab].....", strings.Repeat("a", 63), strings.Repeat(".", 63), strings.Repeat("a", 62) + "b?", strings.Repeat("a", 31) + "b" + strings.Repeat("a", 31), strings.Repeat("a?", 32), strings.Repeat("[ab]", 16), "(" + strings.Repeat("a", 61) + ")*", "(0123456789:;)*", "(" + strings.Repeat("a", 16) + ")*",
		} {
			e := holds(t, v, expr)
			if d := compiled(t, expr); e == api.OK && d.States() == api.MaxStates {
				g := made(t, v, expr)
				noState(t, g, api.MaxStates, api.ErrState, 0, 1, 64)
				if _, e := g.Allow(api.MaxStates - 1); e != api.OK {
					t.Errorf("P12.3: Allow(%d): %d", api.MaxStates-1, e)
				}
			}
		}
	}
}

// A nil guide (R3).
func TestNilGuide(t *testing.T) {
	var g *guide.Guide
	if g.Start() != 0 {
		t.Errorf("P12.2: Start of a nil guide: %d", g.Start())
	}
	for _, state := range append(wrongNumbers(1), 0) {
		noState(t, g, state, api.ErrArg, append(wrongNumbers(1), 0)...)
	}
}
