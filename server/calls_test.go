package server_test

import (
	"fmt"
	"math"
	"slices"
	"strings"
	"testing"

	"augur/api"
	"augur/engine"
	"augur/server"
	"augur/testaid"
)

// P23.1: New's errors are the engine's.
func TestNew(t *testing.T) {
	m := newModel(t, testaid.Ring())
	good := testaid.RingVocab()
	for _, v := range append(testaid.WrongVocabs(), good, testaid.Vocab("ab"), testaid.Vocab("abcd"), testaid.Vocab("ab", [2]int{1, 2})) {
		for _, c := range []api.Serve{exampleServe, {}, {Blocks: 3, Block: 4, Budget: 16, Chunk: 8, Tree: 4}, {Blocks: 8, Block: 4, Budget: 16, Chunk: 17, Tree: 4}, {Blocks: math.MaxInt, Block: 4, Budget: 16, Chunk: 8, Tree: 4}} {
			_, want := engine.New(m, v, c)
			if s, e := server.New(m, v, c); e != want || (s != nil) != (want == api.OK) {
				t.Errorf("P23.1: a vocabulary of %d base bytes, %+v: %d, want %d", len(v.Base), c, e, want)
			}
			if s, e := server.New(nil, v, c); s != nil || e != api.ErrArg {
				t.Errorf("R3: no model: %d", e)
			}
		}
	}
	if s, e := server.New(m, good, exampleServe); s == nil || e != api.OK {
		t.Errorf("P23.1: %d", e)
	} else if told := s.Tick(); len(told) != 0 {
		t.Errorf("P23.1: a new server tells %v", told)
	}
}

func TestNil(t *testing.T) {
	var s *server.Server
	if n, e := s.Connect(); n != 0 || e != api.ErrArg {
		t.Errorf("P23.2: %d, %d", n, e)
	}
	for _, n := range []int{-1, 0, 16} {
		if e := s.Close(n); e != api.ErrArg {
			t.Errorf("P23.3: %d", e)
		}
		if e := s.Feed(n, []byte("ok 1\n")); e != api.ErrArg {
			t.Errorf("P23.4: %d", e)
		}
	}
	if told := s.Tick(); len(told) != 0 {
		t.Errorf("P23.5: %v", told)
	}
}

// P23.2: the lowest number that is free, up to sixteen sessions.
func TestConnect(t *testing.T) {
	s := ring(t, exampleServe)
	for n := 1; n < 16; n++ {
		connects(t, s, n)
	}
	for range 2 {
		if n, e := s.Connect(); n != 0 || e != api.ErrSession {
			t.Fatalf("P23.2: the seventeenth: %d, %d", n, e)
		}
	}
	for _, n := range []int{9, 0, 15, 4} {
		if e := s.Close(n); e != api.OK {
			t.Fatalf("P23.3: %d", e)
		}
	}
	if told := s.Tick(); len(told) != 12 {
		t.Errorf("P23.5: %d sessions are told", len(told))
	}
	for _, n := range []int{0, 4, 9, 15} {
		connects(t, s, n)
	}
	if n, e := s.Connect(); n != 0 || e != api.ErrSession {
		t.Errorf("P23.2: the seventeenth: %d, %d", n, e)
	}
}

// P23.3, P23.4: no open session of that number; and nothing comes of it.
func TestNoSession(t *testing.T) {
	s := ring(t, exampleServe)
	connects(t, s, 1)
	connects(t, s, 2)
	s.Close(1)
	for _, n := range []int{1, -1, 3, 15, 16, 17, 1 << 32, math.MaxInt, math.MinInt} {
		if e := s.Feed(n, []byte("ok 1\n")); e != api.ErrSession {
			t.Errorf("P23.4: Feed(%d): %d", n, e)
		}
		if e := s.Close(n); e != api.ErrSession {
			t.Errorf("P23.3: Close(%d): %d", n, e)
		}
	}
	ticks(t, s, map[int][]string{0: nil, 2: nil})
}

// many: so many lines that ask, from this ID on, each for so many tokens, with this behind the text.
func many(from, count, fresh int, behind string) (lines, oks []string) {
	for id := from; id < from+count; id++ {
		lines = append(lines, fmt.Sprintf(`ask %d %d 0 0 0 1000 256 0 "" "a"%s`, id, fresh, behind))
		oks = append(oks, fmt.Sprintf("ok %d", id))
	}
	return lines, oks
}

// beginsWith: session 0 is told these lines first.
func beginsWith(t *testing.T, s *server.Server, what string, lines []string) {
	t.Helper()
	told := strings.Split(string(s.Tick()[0]), "\n")
	if len(told) < len(lines) || !slices.Equal(told[:len(lines)], lines) {
		t.Fatalf("%s: session 0 is told %q, want %q first", what, told, lines)
	}
}

// P23.3, P23.5: whoever is open no more, by Close, cancel, a stop or its last token, makes room for others: sixteen at most are live.
func TestRoom(t *testing.T) {
	c := api.Serve{Blocks: 64, Block: 4, Budget: 64, Chunk: 8, Tree: 4}
	lines, oks := many(0, 16, 9, "")
	full := append(lines, `ask 99 9 0 0 0 1000 256 0 "" "a"`)
	refused := append(oks, `error 99 203`)

	s := ring(t, c)
	says(t, s, 0, full...)
	beginsWith(t, s, "ErrMany", refused)
	s.Close(0)
	connects(t, s, 0)
	says(t, s, 0, full...)
	beginsWith(t, s, "P23.3", refused)

	var cancels, ends []string
	for id := range 16 {
		cancels = append(cancels, fmt.Sprintf("cancel %d", id))
		ends = append(ends, fmt.Sprintf("end %d 2", id))
	}
	says(t, s, 0, append(cancels, full...)...)
	beginsWith(t, s, "cancel", append(ends, refused...))

	s = ring(t, c)
	stopped, oks := many(0, 16, 9, ` "b"`)
	says(t, s, 0, stopped...)
	beginsWith(t, s, "stop", append(oks, "end 0 1", "end 1 1"))
	says(t, s, 0, full...)
	beginsWith(t, s, "behind a stop", refused)

	s = ring(t, c)
	short, oks := many(0, 16, 1, "")
	says(t, s, 0, short...)
	beginsWith(t, s, "Done", append(oks, `text 0 "b"`, `end 0 0`, `text 1 "b"`, `end 1 0`))
	says(t, s, 0, full...)
	beginsWith(t, s, "behind the last token", refused)
}

// The first of a line's errors is told, in the order of the chapter.
func TestErrorsInOrder(t *testing.T) {
	s := ring(t, api.Serve{Blocks: 64, Block: 4, Budget: 64, Chunk: 8, Tree: 4})
	connects(t, s, 1)
	const rest = ` -1 7 -1 -1 -1 -1 0 "("` // nothing of it may be
	says(t, s, 0, `ask 5 9 0 0 0 1000 256 0 "" "a"`, `ask 5`+rest+` "ad" ""`, `ask 6`+rest+` "ad" ""`, `ask 6`+rest+` "a" ""`, `ask 6`+rest+` "" "x"`, `ask 6`+rest+` "a"`)
	says(t, s, 1, `ask 5`+rest+` "ad" ""`, `cancel 5`)
	ticks(t, s, map[int][]string{
		0: {`ok 5`, `error 5 204`, `error 6 51`, `error 6 180`, `error 6 201`, `error 6 1`, `text 5 "b"`},
		1: {`error 5 51`, `error 5 204`},
	})
	lines, _ := many(10, 15, 9, "")
	says(t, s, 1, lines...)
	s.Tick()
	says(t, s, 1, `ask 10`+rest+` "" ""`, `ask 6`+rest+` "d" ""`, `ask 6`+rest+` "" ""`, `ask 6`+rest+` ""`)
	if told := s.Tick()[1]; !strings.HasPrefix(string(told), "error 10 204\nerror 6 51\nerror 6 180\nerror 6 203\n") {
		t.Errorf("P23.5: %q", told)
	}
}

// Each number of an ask has its own place.
func TestNumbers(t *testing.T) {
	for line, want := range map[string]string{
		`ask 1 0 0 0 0 1000 256 0 "" "a"`:                      `error 1 1`,
		`ask 1 3 5 0 0 1000 256 0 "" "a"`:                      `error 1 1`,
		`ask 1 3 -1 0 0 1000 256 0 "" "a"`:                     `error 1 1`,
		`ask 1 16 0 0 0 1000 256 0 "" "a"`:                     `error 1 202`,
		`ask 1 9223372036854775807 0 0 0 1000 256 0 "" "a"`:    `error 1 202`,
		`ask 1 -9223372036854775808 0 0 0 1000 256 0 "" "a"`:   `error 1 1`,
		`ask 1 3 0 -1 0 1000 256 0 "" "a"`:                     `error 1 100`,
		`ask 1 3 0 0 -1 1000 256 0 "" "a"`:                     `error 1 100`,
		`ask 1 3 0 0 0 0 256 0 "" "a"`:                         `error 1 100`,
		`ask 1 3 0 0 0 1001 256 0 "" "a"`:                      `error 1 100`,
		`ask 1 3 0 0 0 1000 0 0 "" "a"`:                        `error 1 100`,
		`ask 1 3 0 0 0 1000 256 0 "(" "a"`:                     `error 1 110`,
		`ask 1 3 0 0 0 1000 256 0 "d" "a"`:                     `error 1 120`,
		`ask 1 3 0 0 0 1000 256 0 "" "aaaaaaaaaaaaaaaaa"`:      `error 1 202`,
		`ask 1 3 0 0 0 1000 256 0 "" "a" "1" "2" "3" "4" "5"`:  `error 1 180`,
		`ask 1 3 0 0 0 1000 256 0 "" "a" "12345678901234567"`:  `error 1 180`,
		`ask 1 3 0 0 0 1000 256 18446744073709551616 "" "a"`:   `error 0 220`,
		`ask 2147483648 3 0 0 0 1000 256 0 "" "a"`:             `error 0 220`,
		`ask 2147483647 0 0 0 0 1000 256 0 "" "a"`:             `error 2147483647 1`,
		`ask 0 1 4 0 0 1000 256 18446744073709551615 "b*" "a"`: "ok 0\ntext 0 \"b\"\nend 0 0",
	} {
		s := ring(t, exampleServe)
		says(t, s, 0, line)
		if told := string(s.Tick()[0]); told != want+"\n" {
			t.Errorf("P23.5: %s: %q, want %q", line, told, want)
		}
	}
}
