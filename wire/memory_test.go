package wire_test

import (
	"bytes"
	"slices"
	"testing"

	"augur/api"
	"augur/testaid"
	"augur/wire"
)

// roomy: the line with spare room behind each of its lists.
func roomy(l wire.Line) wire.Line {
	l.Text = testaid.Roomy(l.Text, 'z')
	l.Numbers = testaid.Roomy(l.Numbers, 77)
	l.Stops = testaid.Roomy(l.Stops, "zz")
	return l
}

// overwrite: all over a line's lists, their spare room too.
func overwrite(l wire.Line) {
	testaid.Overwrite(l.Text, 'z')
	testaid.Overwrite(l.Numbers, 77)
	testaid.Overwrite(l.Stops, "zz")
}

// clone: the same line over memory of its own.
func clone(l wire.Line) wire.Line {
	l.Text, l.Numbers, l.Stops = bytes.Clone(l.Text), slices.Clone(l.Numbers), slices.Clone(l.Stops)
	return l
}

// What is handed in stays, and the room behind it; if it is refused too.
func TestArgumentsStay(t *testing.T) {
	s := testaid.Source(2210)
	for range 5000 {
		l := someLine(&s)
		if s.Below(3) == 0 {
			spoil(&s, &l)
		}
		l = roomy(l)
		kept := []func() bool{testaid.Guard(l.Text), testaid.Guard(l.Numbers), testaid.Guard(l.Stops)}
		wire.Print(l)
		wire.Quote(l.Text)
		for at, is := range kept {
			if !is() {
				t.Fatalf("P22.5: list %d of %s changed, or the room behind it", at, short(l))
			}
		}
	}
}

// What was handed in may be written over behind the call: the answer stays.
func TestNothingIsKept(t *testing.T) {
	s := testaid.Source(2211)
	for range 5000 {
		l := roomy(someLine(&s))
		want, _ := textOf(l)
		quoted := literalOf(string(l.Text))
		literal := wire.Quote(l.Text)
		text, _ := wire.Print(l)
		overwrite(l)
		if text != want || literal != quoted {
			t.Fatalf("P22.5: %s, %s, want %s, %s", short(text), short(literal), short(want), short(quoted))
		}
	}
}

// Answers written into, their room too, change nothing: not one another, not a later answer; no two lists of one share any.
func TestAnswersAreApart(t *testing.T) {
	s := testaid.Source(2212)
	for range 5000 {
		l := someLine(&s)
		text, _ := textOf(l)
		first, _ := wire.Parse(text)
		second, _ := wire.Parse(text)
		overwrite(first)
		if !same(second, l) {
			t.Fatalf("P22.5: an answer is %s now, was %s", short(second), short(l))
		}
		// Each list is written over in its turn, while the others must stay.
		was := clone(second)
		testaid.Overwrite(second.Text, 'z')
		was.Text = second.Text
		if !same(second, was) {
			t.Fatalf("P22.5: with Text %s changed", short(second))
		}
		testaid.Overwrite(second.Numbers, 77)
		was.Numbers = second.Numbers
		if !same(second, was) {
			t.Fatalf("P22.5: with Numbers %s changed", short(second))
		}
		testaid.Overwrite(second.Stops, "zz")
		was.Stops = second.Stops
		if !same(second, was) {
			t.Fatalf("P22.5: with Stops %s changed", short(second))
		}
		if third, e := wire.Parse(text); !same(third, l) || e != api.OK {
			t.Fatalf("R6: Parse(%s) = %s, %d once answers were written over", short(text), short(third), e)
		}
	}
}

func TestUnquotedBytesAreApart(t *testing.T) {
	s := testaid.Source(2213)
	for range 2000 {
		want := someBytes(&s, 20)
		text := literalOf(want)
		first, _, _ := wire.Unquote(text)
		second, _, _ := wire.Unquote(text)
		testaid.Overwrite(first, 'z')
		if string(second) != want {
			t.Fatalf("P22.5: an answer is %s now, was %s", short(second), short(want))
		}
		if third, n, e := wire.Unquote(text); string(third) != want || n != len(text) || e != api.OK {
			t.Fatalf("R6: Unquote(%s) = %s, %d, %d once an answer was written over", short(text), short(third), n, e)
		}
	}
}

// What was refused or asked before is not seen.
func TestAnswersHangOnNothingElse(t *testing.T) {
	for _, l := range plain() {
		text, _ := textOf(l)
		for _, other := range []string{"", "ask 1", `text 0 "a`, text + " ", `ask 1 2 3 4 5 6 7 8 "a" "b" "c"`} {
			wire.Parse(other)
			wire.Unquote(other)
			wire.Print(wire.Line{Word: other})
			wire.Quote([]byte(other))
			bothWays(t, l, text)
		}
	}
}
