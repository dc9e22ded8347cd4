package server_test

import (
	"strings"
	"testing"

	"augur/api"
	"augur/server"
	"augur/testaid"
)

// exampleServe: the measures of the chapter's examples.
var exampleServe = api.Serve{Blocks: 8, Block: 4, Budget: 16, Chunk: 8, Tree: 4}

// ring: a server over the ring, with session 0.
func ring(t *testing.T, c api.Serve) *server.Server {
	t.Helper()
	s := newServer(t, newModel(t, testaid.Ring()), testaid.RingVocab(), c)
	connects(t, s, 0)
	return s
}

func connects(t *testing.T, s *server.Server, want int) {
	t.Helper()
	if n, e := s.Connect(); n != want || e != api.OK {
		t.Fatalf("P23.2: %d, %d, want %d", n, e, want)
	}
}

// feeds: bytes that come to a session.
func feeds(t *testing.T, s *server.Server, n int, bytes string) {
	t.Helper()
	if e := s.Feed(n, []byte(bytes)); e != api.OK {
		t.Fatalf("P23.4: Feed(%d): %d", n, e)
	}
}

// says: lines that come to a session.
func says(t *testing.T, s *server.Server, n int, lines ...string) {
	t.Helper()
	feeds(t, s, n, strings.Join(lines, "\n")+"\n")
}

// ticks: a Tick behind which the sessions are told just these lines, by their numbers.
func ticks(t *testing.T, s *server.Server, want map[int][]string) {
	t.Helper()
	is := s.Tick()
	if len(is) != len(want) {
		t.Fatalf("P23.5: %d sessions are told, want %d", len(is), len(want))
	}
	for n, lines := range want {
		all := ""
		for _, line := range lines {
			all += line + "\n"
		}
		if told, has := is[n]; !has || string(told) != all {
			t.Fatalf("P23.5: session %d is told %q, want %q", n, told, all)
		}
	}
}

// tells: a Tick behind which session 0, the only one, is told just these lines.
func tells(t *testing.T, s *server.Server, lines ...string) {
	t.Helper()
	ticks(t, s, map[int][]string{0: lines})
}

// The chapter's example 1; DOC.md's example 10 too, whose measures are others.
func TestExampleOne(t *testing.T) {
	for _, c := range []api.Serve{exampleServe, testaid.RingServe} {
		s := ring(t, c)
		says(t, s, 0, `ask 7 4 0 0 0 1000 256 0 "" "a"`)
		tells(t, s, `ok 7`, `text 7 "b"`)
		tells(t, s, `text 7 "c"`)
		tells(t, s, `text 7 "a"`)
		tells(t, s, `text 7 "b"`, `end 7 0`)
		tells(t, s)
	}
}

func TestExampleTwo(t *testing.T) {
	s := ring(t, exampleServe)
	says(t, s, 0, `ask 7 9 0 0 0 1000 256 0 "" "a" "ca"`)
	tells(t, s, `ok 7`, `text 7 "b"`)
	tells(t, s)
	tells(t, s, `end 7 1`)
	tells(t, s)
}

func TestExampleThree(t *testing.T) {
	s := ring(t, exampleServe)
	line := `ask 7 9 0 0 0 1000 256 0 "" "a" "ca"`
	says(t, s, 0, line, line, `ask 8 4 0 0 0 1000 256 0 "" "ad"`, `ask 8 4 0 0 0 1000 256 0 "" ""`, `ok 3`, ``, `hello`, `cancel 7`, `cancel 7`)
	tells(t, s, `ok 7`, `error 7 204`, `error 8 51`, `error 8 201`, `error 0 220`, `error 0 220`, `error 0 220`, `end 7 2`, `error 7 204`)
	says(t, s, 0, `ask 7 4 0 0 0 1000 256 0 "" "ad"`, `ask 7 4 0 0 0 1000 256 0 "" ""`)
	tells(t, s, `error 7 51`, `error 7 201`)
}

func TestExampleFour(t *testing.T) {
	s := ring(t, exampleServe)
	feeds(t, s, 0, `ask 7 1 0 0 0 1000 256 0 "" "a"`)
	tells(t, s)
	tells(t, s)
	feeds(t, s, 0, "\n")
	tells(t, s, `ok 7`, `text 7 "b"`, `end 7 0`)
}
