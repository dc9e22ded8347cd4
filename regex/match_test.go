package regex_test

import (
	"bytes"
	"strings"
	"testing"

	"augur/api"
	"augur/regex"
	"augur/testaid"
)

func TestMatchExamples(t *testing.T) {
	reads(t, "", texts(""), texts("a", "\x00", " "))
	reads(t, "a", texts("a"), texts("", "aa", "b", "A"))
	reads(t, "a*b", texts("b", "ab", "aaab"), texts("", "a", "ba", "bb", "aabb"))
	reads(t, "(a|b)*a", texts("a", "ba", "aaba"), texts("", "b", "ab", "ca", "ac"))
	reads(t, `[0-9]+(\.[0-9]+)?`, texts("0", "12", "3.4", "10.25"), texts("", ".", "1.", ".5", "1.2.3", "a"))
	reads(t, `\x41[^a-z]?`, texts("A", "AA", "A1", "A{", "A`", "A\x00", "A\xff"), texts("", "a", "Ab", "Aa", "Az", "AAA"))
	reads(t, ".*a.....", texts("axxxxx", "xxaaxxxx", "aaaaaa", "\x00a\x01\x02\xff\xfea"), texts("", "a", "axxxx", "xaxxxx", "bxxxxx"))
	reads(t, "a**", texts("", "a", "aaaa"), texts("b", "ab"))
	reads(t, "a||b", texts("", "a", "b"), texts("ab", "aa", "|"))
}

// A whole text is asked for, neither its beginning nor a part of it.
func TestMatchWholeTexts(t *testing.T) {
	reads(t, "abc", texts("abc"), texts("ab", "abcd", "xabc", "abcabc", " abc", "abc\n", "abc\x00"))
	reads(t, "(ab|abc)(d|cd)?", texts("ab", "abc", "abd", "abcd", "abccd"), texts("a", "abcc", "abdd"))
	reads(t, "(a|ab)(c|bcd)(d*)", texts("ac", "abc", "abcd", "abcddd", "abbcd"), texts("ab", "abbc"))
	reads(t, `(\d\d:)*\d\d`, texts("12", "12:34", "12:34:56"), texts("", "1", "12:", "12:3", ":12"))
	reads(t, `"(\w|\\.)*"`, texts(`""`, `"ab1_"`, `"\""`, `"\\"`), texts(`"`, `"""`, `"a`, `"\"`, `" "`))
}

func TestMatchBytesAbove7f(t *testing.T) {
	for b := range 256 {
		text := []byte{byte(b)}
		for expr, want := range map[string]bool{".": true, `[\x80-\xff]`: b >= 0x80, `[^\x80-\xff]`: b < 0x80, `[^a]`: b != 'a', `\xff`: b == 0xff, `\x7f`: b == 0x7f, `\x80`: b == 0x80, `\w`: only(wordSet('w'))(byte(b)), `[^\w]`: but(wordSet('w'))(byte(b))} {
			if compiled(t, expr).Match(text) != want {
				t.Errorf("P11.3: %q matches %q: %v", expr, text, !want)
			}
		}
	}
	reads(t, "...", texts("€", "abc", "\xff\xfe\xfd"), texts("a€", "äö", "ab"))
	reads(t, `\xe2\x82\xac`, texts("€"), texts("\xe2\x82", "\xe2", "?"))
}

func TestMatchLongTexts(t *testing.T) {
	const n = 1 << 22
	pairs := bytes.Repeat([]byte("ab"), n)
	d := compiled(t, "(ab)*")
	if !d.Match(pairs) || d.Match(pairs[1:]) || d.Match(pairs[:2*n-1]) || !d.Match(pairs[:2*n-2]) {
		t.Error("P11.3: (ab)* of long texts")
	}
	pairs[n] = 'c'
	if d.Match(pairs) || !d.Match(pairs[:n]) || !d.Match(pairs[n+2:]) {
		t.Error("P11.3: (ab)* of a long text with a c in the middle")
	}
	if !compiled(t, ".*").Match(pairs) || !compiled(t, ".*c.*").Match(pairs) || compiled(t, "[^c]*").Match(pairs) || compiled(t, ".?").Match(pairs) {
		t.Error("P11.3: long texts of any bytes")
	}
	if run := strings.Repeat("a", 63); !compiled(t, run).Match([]byte(run)) || compiled(t, run).Match([]byte(run+run)) {
		t.Error("P11.3: 63 times a")
	}
}

// matchesWords: of all texts of few bytes of an alphabet just the words match.
func matchesWords(t *testing.T, expr, alphabet string, most int) {
	t.Helper()
	d, e, _ := regex.Compile(expr)
	if e == api.ErrStates {
		return
	}
	expression := tree(t, expr)
	allTexts(alphabet, most, func(text string) {
		if want := expression.word(text); d.Match([]byte(text)) != want {
			t.Errorf("P11.3: %q matches %q: %v", expr, text, !want)
		}
	})
}

func TestMatchAgainstWords(t *testing.T) {
	s := testaid.Source(133)
	for range 800 {
		if expr := someExpression(&s, 1+s.Below(8), "abc"); len(expr) <= api.MaxRegex {
			matchesWords(t, expr, "abc1", 4)
		}
	}
	allTexts("ab(|)*+?", 4, func(text string) {
		if _, at := wordThings(text); at < 0 {
			matchesWords(t, text, "ab", 4)
		}
	})
}
