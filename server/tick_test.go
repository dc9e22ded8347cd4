package server_test

import (
	"strings"
	"testing"

	"augur/api"
	"augur/testaid"
)

// Several tokens of one step are told by one text; a stop within them ends it, and what is behind it is passed over.
func TestManyTokens(t *testing.T) {
	s := ring(t, testaid.RingServe)
	says(t, s, 0, `ask 1 6 1 0 0 1000 256 0 "" "abcab"`, `ask 2 6 1 0 0 1000 256 0 "" "abcab" "ab"`, `ask 3 6 1 0 0 1000 256 0 "" "abcab" "bc" "x"`)
	tells(t, s, `ok 1`, `ok 2`, `ok 3`)
	tells(t, s)
	tells(t, s, `text 1 "cabc"`, `text 2 "c"`, `end 2 1`, `text 3 "ca"`, `end 3 1`)
	tells(t, s, `text 1 "ab"`, `end 1 0`)
	tells(t, s)
}

// The last token ends a stop: the end is that of a stop.
func TestStoppedAndDone(t *testing.T) {
	s := ring(t, exampleServe)
	says(t, s, 0, `ask 1 2 0 0 0 1000 256 0 "" "a" "c"`, `ask 2 2 0 0 0 1000 256 0 "" "a" "bc"`, `ask 3 2 0 0 0 1000 256 0 "" "a" "ca"`)
	tells(t, s, `ok 1`, `ok 2`, `ok 3`, `text 1 "b"`, `text 3 "b"`)
	tells(t, s, `end 1 1`, `end 2 1`, `text 3 "c"`, `end 3 0`)
	tells(t, s)
}

// End is no text, and no stop: what waited is told ahead of the end.
func TestEnd(t *testing.T) {
	s := ring(t, exampleServe)
	says(t, s, 0, `ask 1 9 0 0 0 1000 256 0 "b*" "a"`, `ask 2 9 0 0 0 1000 256 0 "b*" "a" "bc"`)
	tells(t, s, `ok 1`, `ok 2`, `text 1 "b"`)
	tells(t, s, `end 1 0`, `text 2 "b"`, `end 2 0`)
	tells(t, s)
}

// What waited and what the last step gave out are one text.
func TestWaitedAndGiven(t *testing.T) {
	s := ring(t, exampleServe)
	says(t, s, 0, `ask 1 3 0 0 0 1000 256 0 "" "a" "bca" "cc"`, `ask 2 4 0 0 0 1000 256 0 "" "a" "bcaa" "bb"`)
	tells(t, s, `ok 1`, `ok 2`)
	tells(t, s)
	tells(t, s, `end 1 1`)
	tells(t, s, `text 2 "bcab"`, `end 2 0`)
}

// What waits in the stream of a request that is cancelled is told to nobody.
func TestCancel(t *testing.T) {
	s := ring(t, exampleServe)
	connects(t, s, 1)
	says(t, s, 0, `ask 1 9 0 0 0 1000 256 0 "" "a" "bcc"`)
	says(t, s, 1, `cancel 1`)
	ticks(t, s, map[int][]string{0: {`ok 1`}, 1: {`error 1 204`}})
	says(t, s, 1, `ask 1 9 0 0 0 1000 256 0 "" "b"`)
	says(t, s, 0, `cancel 1`, `ask 1 1 0 0 0 1000 256 0 "" "b"`, `cancel 1`, `cancel 1`, `ask 1 1 0 0 0 1000 256 0 "" "c"`)
	ticks(t, s, map[int][]string{0: {`end 1 2`, `ok 1`, `end 1 2`, `error 1 204`, `ok 1`, `text 1 "a"`, `end 1 0`}, 1: {`ok 1`, `text 1 "c"`}})
	says(t, s, 0, `cancel 1`)
	ticks(t, s, map[int][]string{0: {`error 1 204`}, 1: {`text 1 "a"`}})
}

// The sessions are served in rising order of their numbers, whoever was fed first: the engine's numbers are so.
func TestOrder(t *testing.T) {
	s := ring(t, api.Serve{Blocks: 64, Block: 4, Budget: 64, Chunk: 8, Tree: 4})
	connects(t, s, 1)
	connects(t, s, 2)
	lines, _ := many(0, 9, 1, "")
	says(t, s, 2, lines...)
	says(t, s, 1, lines...)
	says(t, s, 0, lines[0])
	told := s.Tick()
	for n, want := range []int{0, 0, 3} {
		if is := strings.Count(string(told[n]), "203"); is != want {
			t.Errorf("P23.5: %d requests of session %d are too many, want %d", is, n, want)
		}
	}
	// In one session requests go on in the order of the engine's numbers, not of their own.
	says(t, s, 0, `ask 9 2 0 0 0 1000 256 0 "" "a"`, `ask 3 2 0 0 0 1000 256 0 "" "b"`, `ask 5 2 0 0 0 1000 256 0 "" "c"`, `cancel 3`, `ask 3 2 0 0 0 1000 256 0 "" "b"`)
	ticks(t, s, map[int][]string{0: {`ok 9`, `ok 3`, `ok 5`, `end 3 2`, `ok 3`, `text 9 "b"`, `text 5 "a"`, `text 3 "c"`}, 1: nil, 2: nil})
	ticks(t, s, map[int][]string{0: {`text 9 "c"`, `end 9 0`, `text 5 "b"`, `end 5 0`, `text 3 "a"`, `end 3 0`}, 1: nil, 2: nil})
}

// All sixteen sessions are served.
func TestAllServed(t *testing.T) {
	s := ring(t, api.Serve{Blocks: 64, Block: 4, Budget: 64, Chunk: 8, Tree: 4})
	for n := 1; n < 16; n++ {
		connects(t, s, n)
	}
	first, second := map[int][]string{}, map[int][]string{}
	for n := range 16 {
		says(t, s, n, `ask 7 2 0 0 0 1000 256 0 "" "a"`)
		first[n], second[n] = []string{`ok 7`, `text 7 "b"`}, []string{`text 7 "c"`, `end 7 0`}
	}
	ticks(t, s, first)
	ticks(t, s, second)
}

// Two sessions may give their requests the same number.
func TestSameId(t *testing.T) {
	s := ring(t, exampleServe)
	connects(t, s, 1)
	says(t, s, 0, `ask 7 3 0 0 0 1000 256 0 "" "a"`)
	says(t, s, 1, `ask 7 3 0 0 0 1000 256 0 "" "b"`)
	ticks(t, s, map[int][]string{0: {`ok 7`, `text 7 "b"`}, 1: {`ok 7`, `text 7 "c"`}})
	says(t, s, 0, `cancel 7`)
	ticks(t, s, map[int][]string{0: {`end 7 2`}, 1: {`text 7 "a"`}})
	ticks(t, s, map[int][]string{0: nil, 1: {`text 7 "b"`, `end 7 0`}})
}

// P23.3: of a session that was closed nothing is left: no request, no line, no part of one.
func TestClosed(t *testing.T) {
	s := ring(t, exampleServe)
	connects(t, s, 1)
	says(t, s, 0, `ask 7 3 0 0 0 1000 256 0 "" "a"`)
	says(t, s, 1, `ask 7 3 0 0 0 1000 256 0 "" "b"`)
	ticks(t, s, map[int][]string{0: {`ok 7`, `text 7 "b"`}, 1: {`ok 7`, `text 7 "c"`}})
	feeds(t, s, 0, "ok 1\nask 8 3 0 0 0 1000 256 0 \"\" \"a\"\ncancel")
	if e := s.Close(0); e != api.OK {
		t.Fatalf("P23.3: %d", e)
	}
	ticks(t, s, map[int][]string{1: {`text 7 "a"`}})
	connects(t, s, 0)
	feeds(t, s, 0, " 7\ncancel 7\nask 7 2 0 0 0 1000 256 0 \"\" \"c\"\n")
	ticks(t, s, map[int][]string{0: {`error 0 220`, `error 7 204`, `ok 7`, `text 7 "a"`}, 1: {`text 7 "b"`, `end 7 0`}})
	s.Close(0)
	connects(t, s, 0)
	ticks(t, s, map[int][]string{0: nil, 1: nil})
}

// A prompt that is filled in pieces: nothing is told until it decodes.
func TestFilling(t *testing.T) {
	s := ring(t, testaid.RingServe)
	says(t, s, 0, `ask 1 2 0 0 0 1000 256 0 "" "abcabca"`)
	tells(t, s, `ok 1`)
	tells(t, s)
	tells(t, s)
	tells(t, s, `text 1 "b"`)
	tells(t, s, `text 1 "c"`, `end 1 0`)
}

// Lines that may not be, of all kinds.
func TestNoLines(t *testing.T) {
	s := ring(t, exampleServe)
	lines := []string{"", " ", "ok 3", "error 3 1", `text 3 "a"`, "end 3 1", "cancel", "cancel 7 ", " cancel 7", "cancel 07", "cancel 7\r", "CANCEL 7", "ask 7", "\x00", "\xff\xfe", "é", `ask 7 4 0 0 0 1000 256 0 "" "a" `, `ask 7 4 0 0 0 1000 256 0 "" a`}
	var want []string
	for range lines {
		want = append(want, "error 0 220")
	}
	says(t, s, 0, lines...)
	tells(t, s, want...)
}

// A line of just as many bytes as it may have, and of more: however it came.
func TestLongLines(t *testing.T) {
	bare := `ask 7 4 0 0 0 1000 256 0 "" ""`
	full := `ask 7 4 0 0 0 1000 256 0 "" "` + strings.Repeat("a", 8192-len(bare)) + `"`
	for _, size := range []int{1, 100, 8191, 8192, 8193, 8194, 40000} {
		for _, ticked := range []bool{false, true} {
			s := ring(t, exampleServe)
			all := full + "\n" + full + "x\n" + "cancel 1" + strings.Repeat(" ", 8184) + "\n" + strings.Repeat("cancel 1 ", 2000) + "\ncancel 1\n"
			told := ""
			for from := 0; from < len(all); from += size {
				feeds(t, s, 0, all[from:min(from+size, len(all))])
				if ticked && from%7 == 0 {
					told += string(s.Tick()[0])
				}
			}
			told += string(s.Tick()[0])
			if want := "error 7 202\nerror 0 220\nerror 0 220\nerror 0 220\nerror 1 204\n"; told != want {
				t.Fatalf("P23.5: in pieces of %d: %q, want %q", size, told, want)
			}
		}
	}
}

// P23.7: what is told hangs on the lines that were whole at each Tick, not on the pieces in which they came.
func TestPieces(t *testing.T) {
	s := testaid.Source(237)
	for range 20 {
		w, v := s.Small()
		m, c := newModel(t, w), s.Serve(w.Config.Len)
		p := newPlay(t, &s, w, v)
		one, other := newServer(t, m, v, c), newServer(t, m, v, c)
		for n := range 3 {
			connects(t, one, n)
			connects(t, other, n)
		}
		for range 40 {
			for n := range 3 {
				lines := p.unsent[n]
				for range s.Below(3) {
					lines += []string{p.askLine(), p.otherLine()}[s.Below(2)] + "\n"
				}
				whole := strings.LastIndex(lines, "\n") + 1
				most := whole + s.Below(5)
				lines += "cancel 1\n"
				p.unsent[n] = lines[most:]
				feeds(t, one, n, lines[:most])
				for rest := lines[:most]; rest != ""; {
					size := min(1+s.Below(9), len(rest))
					if s.Below(3) == 0 {
						size = 1
					}
					feeds(t, other, n, rest[:size])
					feeds(t, other, n, "")
					rest = rest[size:]
				}
			}
			is, want := other.Tick(), one.Tick()
			for n := range 3 {
				if string(is[n]) != string(want[n]) {
					t.Fatalf("P23.7: in other pieces session %d is told %q, not %q", n, is[n], want[n])
				}
			}
		}
	}
}
