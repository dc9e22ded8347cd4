package wire_test

import (
	"bytes"
	"math"
	"runtime"
	"slices"
	"strings"
	"testing"

	"augur/api"
	"augur/testaid"
	"augur/wire"
)

func TestPrintExamples(t *testing.T) {
	mayNotBe(t, wire.Line{Word: "cancel", Id: 7, Numbers: []int{1}}, wire.Line{Word: "end", Id: 7})
}

// Each row of the table.
func TestEachWord(t *testing.T) {
	bothWays(t, wire.Line{Word: "ask", Id: 7, Numbers: []int{4, 0, 0, 0, 1000, 256}, Text: []byte("a")}, `ask 7 4 0 0 0 1000 256 0 "" "a"`)
	bothWays(t, wire.Line{Word: "ask", Id: 1, Numbers: []int{1, 2, 3, 4, 5, 6}, Seed: 8, Guide: "g", Text: []byte("t"), Stops: []string{"s", "", "r"}}, `ask 1 1 2 3 4 5 6 8 "g" "t" "s" "" "r"`)
	bothWays(t, wire.Line{Word: "ask", Numbers: make([]int, 6)}, `ask 0 0 0 0 0 0 0 0 "" ""`)
	bothWays(t, wire.Line{Word: "ask", Numbers: []int{-1, -2, -3, -4, -5, -6}, Guide: `"\`, Stops: []string{" ", `"`}}, `ask 0 -1 -2 -3 -4 -5 -6 0 "\"\\" "" " " "\""`)
	bothWays(t, wire.Line{Word: "cancel", Id: 7}, `cancel 7`)
	bothWays(t, wire.Line{Word: "ok", Id: 7}, `ok 7`)
	bothWays(t, wire.Line{Word: "error", Id: 7, Numbers: []int{204}}, `error 7 204`)
	bothWays(t, wire.Line{Word: "text", Id: 7, Text: []byte("b c")}, `text 7 "b c"`)
	bothWays(t, wire.Line{Word: "text", Id: 7}, `text 7 ""`)
	bothWays(t, wire.Line{Word: "end", Id: 7, Numbers: []int{0}}, `end 7 0`)
	for _, l := range plain() {
		text, _ := textOf(l)
		bothWays(t, l, text)
	}
}

// Lists without elements are none (R4).
func TestEmptyLists(t *testing.T) {
	for _, word := range []string{"cancel", "ok", "text"} {
		l := wire.Line{Word: word, Id: 3, Text: []byte{}, Numbers: []int{}, Stops: []string{}}
		text := word + " 3"
		if word == "text" {
			text += ` ""`
		}
		bothWays(t, l, text)
	}
	bothWays(t, wire.Line{Word: "end", Numbers: []int{1}, Text: []byte{}, Stops: []string{}}, "end 0 1")
	bothWays(t, wire.Line{Word: "ask", Numbers: make([]int, 6), Text: []byte{}, Stops: []string{}}, `ask 0 0 0 0 0 0 0 0 "" ""`)
}

// Of each word's line each field that its row does not name.
func TestFieldsOfOthers(t *testing.T) {
	for _, l := range plain() {
		if l.Word == "ask" {
			continue
		}
		for _, seed := range []uint64{1, 1 << 32, 1 << 63, math.MaxUint64} {
			with := l
			with.Seed = seed
			mayNotBe(t, with)
		}
		for _, text := range []string{"a", "\x00", " ", strings.Repeat("a", 9000)} {
			with := l
			with.Guide = text
			mayNotBe(t, with)
			if l.Word != "text" {
				with := l
				with.Text = []byte(text)
				mayNotBe(t, with)
			}
		}
		for _, stops := range [][]string{{""}, {"a"}, {"", ""}, make([]string, 9000)} {
			with := l
			with.Stops = stops
			mayNotBe(t, with)
		}
	}
}

// So many numbers, and no other number of them.
func TestHowManyNumbers(t *testing.T) {
	wants := map[string]int{"ask": 6, "error": 1, "end": 1}
	for _, word := range allWords() {
		for _, n := range []int{0, 1, 2, 3, 4, 5, 6, 7, 8, 12, 256, 257, 262, 1 << 16, 1 << 20} {
			if prints(t, wire.Line{Word: word, Numbers: make([]int, n)}) != (n == wants[word]) {
				t.Errorf("P22.3: %s with %d numbers", word, n)
			}
		}
	}
}

func TestNoWords(t *testing.T) {
	for _, word := range []string{"", " ", "Ask", "CANCEL", "asks", "as", "ok ", " ok", "ok 7", "okay", "o", "texte", "Text", "error 1", "END", "ends", "tell", "ok\x00", "ok\n", "\xff", "ask\u200b", strings.Repeat("ok", 5000)} {
		for _, numbers := range [][]int{nil, {1}, make([]int, 6)} {
			mayNotBe(t, wire.Line{Word: word, Id: 7, Numbers: numbers})
		}
	}
}

func TestIDs(t *testing.T) {
	for _, l := range plain() {
		for _, id := range []int{0, 1, 9, 10, 11, 255, 256, 65535, 65536, 99999, 100000, math.MaxInt32 - 1, math.MaxInt32} {
			l.Id = id
			text, is := textOf(l)
			if !is {
				t.Errorf("%d is an ID", id)
			}
			bothWays(t, l, text)
		}
		for _, id := range []int{-1, -2, -7, math.MinInt32, math.MinInt32 + 7, math.MinInt, math.MinInt + 7, math.MaxInt32 + 1, math.MaxInt32 + 2, 1 << 32, 1<<32 + 7, math.MaxInt} {
			l.Id = id
			mayNotBe(t, l)
		}
	}
}

// Numbers and seeds of any size, at each place.
func TestNumbers(t *testing.T) {
	all := []int{0, 1, -1, 9, 10, -9, -10, 127, -128, 65536, math.MaxInt32, math.MaxInt32 + 1, math.MinInt32, math.MinInt32 - 1, 1 << 53, -1 << 53, math.MaxInt - 1, math.MaxInt, math.MinInt, math.MinInt + 1}
	for _, n := range all {
		for _, l := range plain() {
			for at := range l.Numbers {
				with := l
				with.Numbers = slices.Clone(l.Numbers)
				with.Numbers[at] = n
				text, _ := textOf(with)
				bothWays(t, with, text)
			}
		}
		with := plain()[0]
		with.Seed = uint64(n)
		text, _ := textOf(with)
		bothWays(t, with, text)
	}
	bothWays(t, wire.Line{Word: "error", Numbers: []int{math.MinInt}}, "error 0 -9223372036854775808")
	bothWays(t, wire.Line{Word: "end", Numbers: []int{math.MaxInt}}, "end 0 9223372036854775807")
	bothWays(t, wire.Line{Word: "ask", Numbers: make([]int, 6), Seed: math.MaxUint64}, `ask 0 0 0 0 0 0 0 18446744073709551615 "" ""`)
}

// As many bytes as a line may have, and one more: made so by each of the texts, of each kind of pieces.
func TestLongestLines(t *testing.T) {
	for _, b := range []byte{'a', '"', '\n'} {
		size := len(pieceOf(b))
		for length := 8192 - 5; length <= 8192+5; length++ {
			for _, l := range []wire.Line{{Word: "text", Id: 3}, {Word: "ask", Id: 3, Numbers: make([]int, 6), Stops: []string{"", ""}}} {
				bare, _ := textOf(l)
				room := length - len(bare)
				some := strings.Repeat(string([]byte{b}), room/size) + strings.Repeat("z", room%size)
				for _, with := range longLines(l, some) {
					if text, _ := textOf(with); len(text) != length {
						t.Fatalf("%d bytes, not %d", len(text), length)
					}
					if prints(t, with) != (length <= 8192) {
						t.Errorf("P22.3: a line of %d bytes", length)
					}
				}
			}
		}
	}
}

// longLines: the line with these bytes in each of its texts.
func longLines(l wire.Line, some string) []wire.Line {
	out := []wire.Line{l}
	out[0].Text = []byte(some)
	if l.Word != "ask" {
		return out
	}
	guided := l
	guided.Guide = some
	out = append(out, guided)
	for at := range l.Stops {
		with := l
		with.Stops = slices.Clone(l.Stops)
		with.Stops[at] = some
		out = append(out, with)
	}
	half := l
	half.Guide, half.Text = some[:len(some)/2], []byte(some[len(some)/2:])
	return append(out, half)
}

// As many stops as a line has room for, and more.
func TestManyStops(t *testing.T) {
	bare := len(`ask 0 0 0 0 0 0 0 0 "" ""`)
	most := (8192 - bare) / 3
	for _, n := range []int{0, 1, 4, 5, 100, most - 1, most, most + 1, 2729, 2730, 2731, 2732, 8192, 8193, 1 << 20} {
		if prints(t, wire.Line{Word: "ask", Numbers: make([]int, 6), Stops: make([]string, n)}) != (n <= most) {
			t.Errorf("P22.3: %d stops", n)
		}
	}
}

// spent: how many bytes of memory a call takes.
func spent(call func()) uint64 {
	var before, after runtime.MemStats
	runtime.ReadMemStats(&before)
	call()
	runtime.ReadMemStats(&after)
	return after.TotalAlloc - before.TotalAlloc
}

// Far above the bound: found out by the length, without going through it all.
func TestFarTooLong(t *testing.T) {
	huge := strings.Repeat("\n", 1<<24)
	numbers := make([]int, 6)
	for i, l := range []wire.Line{
		{Word: "text", Text: make([]byte, 1<<24)},
		{Word: "ask", Numbers: numbers, Text: make([]byte, 1<<24)},
		{Word: "ask", Numbers: numbers, Guide: huge},
		{Word: "ask", Numbers: numbers, Stops: []string{huge}},
		{Word: "ask", Numbers: numbers, Stops: slices.Repeat([]string{huge[:8000]}, 2700)},
		{Word: "ask", Numbers: numbers, Stops: slices.Repeat([]string{huge}, 1<<20)},
		{Word: "ask", Numbers: make([]int, 1<<20)},
		{Word: "error", Numbers: make([]int, 1<<20)},
		{Word: "ok", Guide: huge, Stops: slices.Repeat([]string{huge}, 1<<16)},
		{Word: huge},
	} {
		bytes := spent(func() {
			if text, e := wire.Print(l); text != "" || e != api.ErrLine {
				t.Errorf("P22.3: line %d: %d bytes, %d", i, len(text), e)
			}
		})
		if bytes > 1<<20 {
			t.Errorf("R1: line %d was refused with %d bytes of memory", i, bytes)
		}
	}
	for _, text := range []string{huge, "ok " + strings.Repeat("1", 1<<24), `text 0 "` + strings.Repeat("a", 1<<24) + `"`, `ask 0 0 0 0 0 0 0 0 "" ""` + strings.Repeat(` ""`, 1<<22)} {
		bytes := spent(func() { isNoLine(t, text) })
		if bytes > 1<<20 {
			t.Errorf("R1: a text of %d bytes was refused with %d bytes of memory", len(text), bytes)
		}
	}
}

// Drawn lines, some of them spoilt.
func TestPrintOfDrawnLines(t *testing.T) {
	s := testaid.Source(2204)
	good, bad := 0, 0
	for range 20000 {
		l := someLine(&s)
		if s.Below(2) == 0 {
			spoil(&s, &l)
		}
		if prints(t, l) {
			good++
		} else {
			bad++
		}
	}
	if good < 5000 || bad < 5000 {
		t.Errorf("%d that may be, %d others", good, bad)
	}
}

// spoil: something of a line is made another.
func spoil(s *testaid.Source, l *wire.Line) {
	switch s.Below(7) {
	case 0:
		l.Word = allWords()[s.Below(6)]
	case 1:
		l.Id = int(someNumber(s))
	case 2:
		l.Numbers = append(l.Numbers, int(someNumber(s)))
	case 3:
		l.Numbers = l.Numbers[:s.Below(len(l.Numbers)+1)]
	case 4:
		l.Text = bytes.Repeat([]byte{byte(s.Next())}, s.Below(9000))
	case 5:
		l.Seed, l.Guide = someNumber(s), someBytes(s, 2)
	case 6:
		l.Stops = append(l.Stops, someBytes(s, 2))
	}
}
