package wire_test

import (
	"bytes"
	"fmt"
	"math"
	"math/big"
	"regexp"
	"slices"
	"strings"
	"testing"

	"augur/api"
	"augur/testaid"
	"augur/wire"
)

// The chapter's words, said a second time: what is read by the library's expressions and whole numbers of any size, what is written by its forms.

// pieceOf: the piece of a byte.
func pieceOf(b byte) string {
	switch {
	case b == '"':
		return `\"`
	case b == '\\':
		return `\\`
	case 32 <= b && b <= 126:
		return string(rune(b))
	}
	return fmt.Sprintf(`\x%02x`, b)
}

// literalOf: the literal of some bytes.
func literalOf(b string) string {
	var out strings.Builder
	for i := range len(b) {
		out.WriteString(pieceOf(b[i]))
	}
	return `"` + out.String() + `"`
}

// The forms, as expressions.
const (
	pieceForm   = `(?:[ !#-\[\]-~]|\\"|\\\\|\\x(?:[01][0-9a-f]|7f|[89a-f][0-9a-f]))`
	literalForm = `"` + pieceForm + `*"`
	numberForm  = `(?:0|-?[1-9][0-9]*)`
)

var (
	onePiece   = regexp.MustCompile(pieceForm)
	oneLiteral = regexp.MustCompile(literalForm)
	literal    = regexp.MustCompile(`^` + literalForm)
	lineForms  = []*regexp.Regexp{
		regexp.MustCompile(`^(ask) (` + numberForm + `)((?: ` + numberForm + `){6}) (` + numberForm + `)((?: ` + literalForm + `){2,})$`),
		regexp.MustCompile(`^(cancel|ok) (` + numberForm + `)()()()$`),
		regexp.MustCompile(`^(error|end) (` + numberForm + `)( ` + numberForm + `)()()$`),
		regexp.MustCompile(`^(text) (` + numberForm + `)()()( ` + literalForm + `)$`),
	}
)

// byteOf: the byte of each piece.
var byteOf = func() map[string]byte {
	out := map[string]byte{}
	for b := range 256 {
		out[pieceOf(byte(b))] = byte(b)
	}
	return out
}()

// bytesOf: those of a literal, which it must be.
func bytesOf(literal string) string {
	var out []byte
	for _, piece := range onePiece.FindAllString(literal[1:len(literal)-1], -1) {
		out = append(out, byteOf[piece])
	}
	return string(out)
}

// headOf: the bytes of the literal that a text begins with, and its length; false, if it begins with none.
func headOf(text string) (string, int, bool) {
	head := literal.FindString(text)
	if head == "" {
		return "", 0, false
	}
	return bytesOf(head), len(head), true
}

// within: the number, if it is of so many bits without sign, or with one, if they are below 0.
func within(digits string, bits int) (*big.Int, bool) {
	n, is := new(big.Int).SetString(digits, 10)
	if bits > 0 {
		return n, is && n.Sign() >= 0 && n.BitLen() <= bits
	}
	low := new(big.Int).Lsh(big.NewInt(-1), uint(-bits-1))
	high := new(big.Int).Not(low)
	return n, is && n.Cmp(low) >= 0 && n.Cmp(high) <= 0
}

// lineOf: the line that may be whose text this is; false, if there is none.
func lineOf(text string) (wire.Line, bool) {
	if len(text) > 8192 {
		return wire.Line{}, false
	}
	for _, form := range lineForms {
		if found := form.FindStringSubmatch(text); found != nil {
			return filled(found[1:])
		}
	}
	return wire.Line{}, false
}

// filled: the line of a word, an ID, numbers, a seed and literals; false, if a number is not within its bounds.
func filled(parts []string) (wire.Line, bool) {
	l := wire.Line{Word: parts[0]}
	n, is := within(parts[1], 31)
	l.Id = int(n.Int64())
	for _, digits := range strings.Fields(parts[2]) {
		n, good := within(digits, -64)
		l.Numbers = append(l.Numbers, int(n.Int64()))
		is = is && good
	}
	if parts[3] != "" {
		n, good := within(parts[3], 64)
		l.Seed = n.Uint64()
		is = is && good
	}
	texts := oneLiteral.FindAllString(parts[4], -1)
	if l.Word == "ask" {
		l.Guide = bytesOf(texts[0])
		texts = texts[1:]
	}
	if len(texts) > 0 {
		l.Text = []byte(bytesOf(texts[0]))
		for _, stop := range texts[1:] {
			l.Stops = append(l.Stops, bytesOf(stop))
		}
	}
	return l, is
}

// textOf: the text of a line; false, if it may not be.
func textOf(l wire.Line) (string, bool) {
	numbers := map[string]int{"ask": 6, "cancel": 0, "ok": 0, "error": 1, "text": 0, "end": 1}
	many, is := numbers[l.Word]
	parts := []string{l.Word, fmt.Sprintf("%d", l.Id)}
	for _, n := range l.Numbers {
		parts = append(parts, fmt.Sprintf("%d", n))
	}
	rest := wire.Line{Text: l.Text, Seed: l.Seed, Guide: l.Guide, Stops: l.Stops}
	switch l.Word {
	case "ask":
		parts = append(parts, fmt.Sprintf("%d", l.Seed), literalOf(l.Guide), literalOf(string(l.Text)))
		for _, stop := range l.Stops {
			parts = append(parts, literalOf(stop))
		}
		rest = wire.Line{}
	case "text":
		parts = append(parts, literalOf(string(l.Text)))
		rest.Text = nil
	}
	text := strings.Join(parts, " ")
	is = is && 0 <= l.Id && l.Id <= 2147483647 && len(l.Numbers) == many && same(rest, wire.Line{}) && len(text) <= 8192
	return text, is
}

// same: alike, be the lists without elements nil or not.
func same(a, b wire.Line) bool {
	return a.Word == b.Word && a.Id == b.Id && bytes.Equal(a.Text, b.Text) && slices.Equal(a.Numbers, b.Numbers) && a.Seed == b.Seed && a.Guide == b.Guide && slices.Equal(a.Stops, b.Stops)
}

// short: as much of something as is good to read.
func short(x any) string {
	s := fmt.Sprintf("%+q", x)
	return s[:min(len(s), 200)]
}

// unquotes: Unquote answers what the words say; does the text begin with a literal?
func unquotes(t *testing.T, text string) bool {
	t.Helper()
	want, length, is := headOf(text)
	b, n, e := wire.Unquote(text)
	if is != (e == api.OK) || !is && e != api.ErrLine || n != length || string(b) != want {
		t.Fatalf("P22.2: Unquote(%s) = %s, %d, %d, want %s, %d, %v", short(text), short(b), n, e, short(want), length, is)
	}
	return is
}

// parses: Parse answers what the words say; is the text a line's?
func parses(t *testing.T, text string) bool {
	t.Helper()
	want, is := lineOf(text)
	l, e := wire.Parse(text)
	if !is {
		want = wire.Line{}
	}
	if is != (e == api.OK) || !is && e != api.ErrLine || !same(l, want) {
		t.Fatalf("P22.4: Parse(%s) = %s, %d, want %s, %v", short(text), short(l), e, short(want), is)
	}
	return is
}

// isNoLine: Parse refuses the text, by the words too.
func isNoLine(t *testing.T, texts ...string) {
	t.Helper()
	for _, text := range texts {
		if parses(t, text) {
			t.Errorf("P22.4: %s is a line", short(text))
		}
	}
}

// prints: Print answers what the words say; may the line be?
func prints(t *testing.T, l wire.Line) bool {
	t.Helper()
	want, is := textOf(l)
	text, e := wire.Print(l)
	if !is {
		want = ""
	}
	if is != (e == api.OK) || !is && e != api.ErrLine || text != want {
		t.Fatalf("P22.3: Print(%s) = %s, %d, want %s, %v", short(l), short(text), e, short(want), is)
	}
	return is
}

// mayNotBe: Print refuses the lines, by the words too.
func mayNotBe(t *testing.T, lines ...wire.Line) {
	t.Helper()
	for _, l := range lines {
		if prints(t, l) {
			t.Errorf("P22.3: %s may be", short(l))
		}
	}
}

// bothWays: the line may be, this is its text, and each is made of the other.
func bothWays(t *testing.T, l wire.Line, text string) {
	t.Helper()
	if s, e := wire.Print(l); s != text || e != api.OK {
		t.Fatalf("P22.3: Print(%s) = %s, %d, want %s", short(l), short(s), e, short(text))
	}
	if got, e := wire.Parse(text); !same(got, l) || e != api.OK {
		t.Fatalf("P22.4: Parse(%s) = %s, %d, want %s", short(text), short(got), e, short(l))
	}
	if !prints(t, l) || !parses(t, text) {
		t.Fatalf("by the words %s is not the text of %s", short(text), short(l))
	}
}

// allWords: of the lines.
func allWords() []string { return []string{"ask", "cancel", "ok", "error", "text", "end"} }

// plain: a line of each word that may be.
func plain() []wire.Line {
	return []wire.Line{
		{Word: "ask", Id: 1, Numbers: []int{20, 3, 0, 0, 1000, 256}, Seed: 99, Guide: "a*", Text: []byte("ab"), Stops: []string{".", "\n"}},
		{Word: "cancel", Id: 7},
		{Word: "ok", Id: 12},
		{Word: "error", Id: 3, Numbers: []int{-5}},
		{Word: "text", Id: 4, Text: []byte("a \"b\"\\\n\xff")},
		{Word: "end", Id: 5, Numbers: []int{2}},
	}
}

// plainTexts: those of these lines.
func plainTexts(t *testing.T) []string {
	t.Helper()
	var out []string
	for _, l := range plain() {
		text, is := textOf(l)
		if !is {
			t.Fatalf("%s may not be", short(l))
		}
		out = append(out, text)
	}
	return out
}

// someNumber: one of any size.
func someNumber(s *testaid.Source) uint64 {
	n := s.Next()<<17 ^ s.Next()
	switch s.Below(8) {
	case 0:
		return uint64(s.Below(3))
	case 1:
		return uint64(math.MaxInt64)
	case 2:
		return 1 << 63
	case 3:
		return math.MaxUint64
	}
	return n >> s.Below(64)
}

// someBytes: up to so many, of any kind or of those that have pieces of their own.
func someBytes(s *testaid.Source, most int) string {
	out := make([]byte, s.Below(most+1))
	for i := range out {
		out[i] = byte(s.Next())
		if s.Below(2) == 0 {
			const letters = "\"\\ x0af~\x7f\x1f\n"
			out[i] = letters[s.Below(len(letters))]
		}
	}
	return string(out)
}

// someLine: one that may be.
func someLine(s *testaid.Source) wire.Line {
	l := wire.Line{Word: allWords()[s.Below(6)], Id: int(someNumber(s) % (1 << 31))}
	many := 0
	switch l.Word {
	case "ask":
		many = 6
		l.Seed, l.Guide, l.Text = someNumber(s), someBytes(s, 12), []byte(someBytes(s, 12))
		for range s.Below(6) {
			l.Stops = append(l.Stops, someBytes(s, 5))
		}
	case "error", "end":
		many = 1
	case "text":
		l.Text = []byte(someBytes(s, 30))
	}
	for range many {
		l.Numbers = append(l.Numbers, int(someNumber(s)))
	}
	return l
}
