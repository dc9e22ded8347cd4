package wire_test

import (
	"bytes"
	"strings"
	"testing"

	"augur/api"
	"augur/testaid"
	"augur/wire"
)

// quotes: the bytes' literal is this.
func quotes(t *testing.T, b, want string) {
	t.Helper()
	if got := wire.Quote([]byte(b)); got != want {
		t.Fatalf("P22.1: Quote(%s) = %s, want %s", short(b), short(got), short(want))
	}
}

func TestQuoteExamples(t *testing.T) {
	quotes(t, "", `""`)
	quotes(t, `a"b`, `"a\"b"`)
	quotes(t, string([]byte{10, 92, 127, 255}), `"\x0a\\\x7f\xff"`)
	if got := wire.Quote(nil); got != `""` {
		t.Errorf("R4: Quote(nil) = %s", got)
	}
}

// Each byte alone and between others, and each two.
func TestQuoteOfEachByte(t *testing.T) {
	for b := range 256 {
		one := string([]byte{byte(b)})
		quotes(t, one, literalOf(one))
		quotes(t, "a"+one+"b", `"a`+pieceOf(byte(b))+`b"`)
		for c := range 256 {
			two := one + string([]byte{byte(c)})
			quotes(t, two, `"`+pieceOf(byte(b))+pieceOf(byte(c))+`"`)
		}
	}
}

// The edges of the bytes that are their own piece, and the digits of the others, written out.
func TestQuoteEdges(t *testing.T) {
	quotes(t, "\x00\x01\x09\x0f\x10\x1f\x20!", `"\x00\x01\x09\x0f\x10\x1f !"`)
	quotes(t, "#[]~\x7f\x80\x9a\xab\xbc\xcd\xde\xef\xf0", `"#[]~\x7f\x80\x9a\xab\xbc\xcd\xde\xef\xf0"`)
	quotes(t, "é€", `"\xc3\xa9\xe2\x82\xac"`)
	quotes(t, `\x41`, `"\\x41"`)
	quotes(t, `""`, `"\"\""`)
	quotes(t, `\\`, `"\\\\"`)
}

// Of any length: also such as no line may have.
func TestLongLiterals(t *testing.T) {
	for _, n := range []int{8189, 8190, 8191, 8192, 8193, 1 << 16, 1 << 20} {
		for _, b := range []byte{'a', '"', '\\', 10, 255} {
			many := strings.Repeat(string([]byte{b}), n)
			want := `"` + strings.Repeat(pieceOf(b), n) + `"`
			quotes(t, many, want)
			for _, rest := range []string{"", " ", `"`} {
				if got, m, e := wire.Unquote(want + rest); string(got) != many || m != len(want) || e != api.OK {
					t.Fatalf("P22.2: of %d bytes %#x Unquote gives %d, %d, %d", n, b, len(got), m, e)
				}
			}
			refusedLiteral(t, want[:len(want)-1])
		}
	}
}

// refusedLiteral: Unquote answers none, 0, ErrLine.
func refusedLiteral(t *testing.T, texts ...string) {
	t.Helper()
	for _, text := range texts {
		if b, n, e := wire.Unquote(text); len(b) != 0 || n != 0 || e != api.ErrLine {
			t.Fatalf("P22.2: Unquote(%s) = %s, %d, %d, want an error", short(text), short(b), n, e)
		}
	}
}

func TestUnquoteExamples(t *testing.T) {
	if b, n, e := wire.Unquote(`"a" b`); string(b) != "a" || n != 3 || e != api.OK {
		t.Errorf("P22.2: %q, %d, %d", b, n, e)
	}
	refusedLiteral(t, `"a`, `a"`, `"\x41"`, `"\x0A"`, `"\n"`, "\"\n\"")
}

// What is no literal's beginning: by its first byte, by its end, by a piece that no byte has.
func TestNoLiteral(t *testing.T) {
	refusedLiteral(t, "", " ", "a", `'a'`, "`a`", ` "a"`, `\"a"`, "\xffa\"", "é", "\x00\"")
	refusedLiteral(t, `"`, `"\`, `"\"`, `"\\`, `"\\\"`, `"\x`, `"\x0`, `"\x0a`, `"\x"`, `"\x0"`, `"\x0a\"`)
	refusedLiteral(t, `"\x20"`, `"\x7e"`, `"\x22"`, `"\x5c"`, `"\x0g"`, `"\xg0"`, `"\xFF"`, `"\xfF"`, `"\xFf"`, `"\X0a"`, `"\x 1"`, `"\x+1"`, `"\x-1"`, `"\x_1"`, `"\x1_"`)
	refusedLiteral(t, `"\a"`, `"\0"`, `"\t"`, `"\'"`, `"\u00e9"`, `"\012"`, `"\ "`, "\"\\\n\"", "\"\\\xff\"")
	refusedLiteral(t, "\"\x7f\"", "\"\x80\"", "\"\xff\"", "\"é\"", "\"€\"", "\"\xc3\"", "\"a\x00\"", "\"\t\"", "\"\r\"", "\"a\n")
	refusedLiteral(t, "\"\uff02", "\"\U0001f600\"", "\"\ufffd\"", "\"\u0122")
}

// All short texts of the bytes that matter.
func TestUnquoteOfAllShortTexts(t *testing.T) {
	const letters = "\"\\x0a7F \n\xff"
	good := 0
	texts := []string{""}
	for range 5 {
		var longer []string
		for _, text := range texts {
			for i := range len(letters) {
				longer = append(longer, text+letters[i:i+1])
			}
		}
		texts = longer
		for _, text := range texts {
			for _, text := range []string{text, `"` + text} {
				if unquotes(t, text) {
					good++
				}
			}
		}
	}
	if good < 1000 {
		t.Errorf("only %d literals among them", good)
	}
}

// Behind a \ any byte, and behind a \x any two.
func TestUnquoteOfEachEscape(t *testing.T) {
	good := 0
	for b := range 256 {
		one := string([]byte{byte(b)})
		for _, text := range []string{`"` + one + `"`, `"` + one, `"\` + one + `"`, `"\` + one, one + `a"`, `"a"` + one, `""` + one} {
			unquotes(t, text)
		}
		for c := range 256 {
			two := one + string([]byte{byte(c)})
			if unquotes(t, `"\x`+two+`"`) {
				good++
			}
			unquotes(t, `"a\x`+two+`\\"`)
			unquotes(t, `"`+two+`"`)
		}
	}
	if good != 256-(126-32+1) {
		t.Errorf("P22.2: %d bytes have a piece of digits", good)
	}
}

// Unquote of a literal and anything behind it gives its bytes and its length; of no first part of it anything.
func TestUnquoteOfQuote(t *testing.T) {
	s := testaid.Source(2201)
	for range 3000 {
		b := someBytes(&s, 40)
		literal := wire.Quote([]byte(b))
		if literal != literalOf(b) {
			t.Fatalf("P22.1: Quote(%s) = %s", short(b), short(literal))
		}
		for _, rest := range []string{"", " ", `"`, `\`, "\n", "\xff", "é", literal, someBytes(&s, 10)} {
			if got, n, e := wire.Unquote(literal + rest); string(got) != b || n != len(literal) || e != api.OK {
				t.Fatalf("P22.2: Unquote(%s) = %s, %d, %d", short(literal+rest), short(got), n, e)
			}
		}
		for n := range len(literal) {
			refusedLiteral(t, literal[:n])
		}
	}
}

// Each list of bytes has a literal of its own, with bytes from 32 to 126 alone.
func TestLiteralsAreApart(t *testing.T) {
	s := testaid.Source(2202)
	of := map[string]string{}
	for range 20000 {
		b := someBytes(&s, 6)
		literal := wire.Quote([]byte(b))
		if was, is := of[literal]; is && was != b {
			t.Fatalf("P22.1: %s is the literal of %s and of %s", short(literal), short(was), short(b))
		}
		of[literal] = b
		if bytes.ContainsFunc([]byte(literal), func(r rune) bool { return r < 32 || r > 126 }) {
			t.Fatalf("P22.1: Quote(%s) = %s", short(b), short(literal))
		}
	}
}

// Literals that were changed at a place, cut, or drawn.
func TestUnquoteOfChangedLiterals(t *testing.T) {
	s := testaid.Source(2203)
	good, bad := 0, 0
	for range 40000 {
		text := changed(&s, literalOf(someBytes(&s, 8)))
		if unquotes(t, text) {
			good++
		} else {
			bad++
		}
	}
	if good < 1000 || bad < 1000 {
		t.Errorf("%d literals, %d others", good, bad)
	}
}

// changed: a text with a byte more, less, or another one; once or several times.
func changed(s *testaid.Source, text string) string {
	const letters = "\"\\ x0a19fF-+\n\t\x7f\xff"
	for first := true; first || s.Below(4) == 0; first = false {
		at := s.Below(len(text) + 1)
		b := letters[s.Below(len(letters)):][:1]
		if s.Below(4) == 0 {
			b = string([]byte{byte(s.Next())})
		}
		tail := text[at:]
		switch s.Below(3) {
		case 0:
			b = ""
			tail = tail[min(1, len(tail)):]
		case 1:
			tail = tail[min(1, len(tail)):]
		}
		text = text[:at] + b + tail
	}
	return text
}
