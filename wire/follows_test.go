package wire_test

import (
	"strings"
	"testing"

	"augur/api"
	"augur/testaid"
	"augur/wire"
)

// Parse of Print gives the line back, Print of Parse the text.
func TestThereAndBack(t *testing.T) {
	s := testaid.Source(2207)
	for range 20000 {
		l := someLine(&s)
		text, e := wire.Print(l)
		if e != api.OK {
			t.Fatalf("P22.3: Print(%s): %d", short(l), e)
		}
		back, e := wire.Parse(text)
		if e != api.OK || !same(back, l) {
			t.Fatalf("P22.4: Parse(%s) = %s, %d, want %s", short(text), short(back), e, short(l))
		}
		if again, e := wire.Print(back); again != text || e != api.OK {
			t.Fatalf("P22.3: Print of Parse(%s) = %s, %d", short(text), short(again), e)
		}
	}
}

// What Parse takes, be it made by Print or not, Print gives back: a line has one form.
func TestOneForm(t *testing.T) {
	s := testaid.Source(2208)
	for range 40000 {
		text, _ := textOf(someLine(&s))
		text = changed(&s, text)
		l, e := wire.Parse(text)
		if e != api.OK {
			continue
		}
		if again, e := wire.Print(l); again != text || e != api.OK {
			t.Fatalf("P22.4: %s is taken, but Print gives %s, %d", short(text), short(again), e)
		}
	}
}

// Lines in a stream, each with a byte 10 behind it, are found again.
func TestLinesInAStream(t *testing.T) {
	s := testaid.Source(2209)
	for range 200 {
		var lines []wire.Line
		stream := ""
		for range s.Below(20) {
			l := someLine(&s)
			text, _ := wire.Print(l)
			for i := range len(text) {
				if text[i] < 32 || text[i] > 126 {
					t.Fatalf("a byte %d in %s", text[i], short(text))
				}
			}
			lines, stream = append(lines, l), stream+text+"\n"
		}
		found := strings.Split(stream, "\n")
		if len(found) != len(lines)+1 || found[len(lines)] != "" {
			t.Fatalf("%d lines in a stream of %d", len(found)-1, len(lines))
		}
		for i, l := range lines {
			if got, e := wire.Parse(found[i]); e != api.OK || !same(got, l) {
				t.Fatalf("Parse(%s) = %s, %d", short(found[i]), short(got), e)
			}
		}
	}
}

// The error's number is the document's.
func TestErrorNumber(t *testing.T) {
	_, parse := wire.Parse("")
	_, print := wire.Print(wire.Line{})
	_, _, unquote := wire.Unquote("")
	if parse != 220 || print != 220 || unquote != 220 {
		t.Errorf("%d, %d, %d, want 220", parse, print, unquote)
	}
}
