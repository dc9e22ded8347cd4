package server_test

import (
	"bytes"
	"maps"
	"runtime"
	"slices"
	"strings"
	"testing"

	"augur/api"
	"augur/server"
	"augur/testaid"
)

// stays: the call leaves a list and the room behind it as they are; then they are written over.
func stays[T comparable](t *testing.T, list []T, mark T, call func()) {
	t.Helper()
	same := testaid.Guard(list)
	call()
	if !same() {
		t.Fatalf("P23.8: what was handed in was changed, or the room behind it: %v", list[:cap(list)])
	}
	testaid.Overwrite(list, mark)
}

// P23.8: whatever is written over what was handed in and answered, everything goes on as the words say.
func TestNothingShared(t *testing.T) {
	s := testaid.Source(238)
	for range 20 {
		p := small(t, &s)
		for range 3 {
			p.connect()
		}
		for range 60 {
			n := s.Below(3)
			b := testaid.Roomy([]byte(p.askLine()+"\n"+p.otherLine()+"\ncancel"), 'z')
			if s.Below(2) == 0 {
				b = b[:len(b)-6]
			}
			p.d.feed(n, b)
			stays(t, b, '\n', func() { p.s.Feed(n, b) })
			want, is := p.d.tick(), p.s.Tick()
			for n := range 3 {
				if string(is[n]) != want[n] {
					t.Fatalf("P23.8: session %d is told %q, want %q", n, is[n], want[n])
				}
				// Each is written over in its turn, while those behind it must stay.
				testaid.Spoil(is[n], '\n')
			}
			clear(is)
			is[7] = []byte("ok 1\n")
		}
	}
}

// P23.8: what was told stays, whatever is told later.
func TestToldStays(t *testing.T) {
	s := ring(t, exampleServe)
	says(t, s, 0, `ask 1 9 0 0 0 1000 256 0 "" "a"`, "hello", "hello")
	first := s.Tick()
	was := bytes.Clone(first[0])
	for range 5 {
		says(t, s, 0, "hello")
		s.Tick()
	}
	if !bytes.Equal(first[0], was) || len(first) != 1 {
		t.Errorf("P23.8: what was told is %q now, was %q", first[0], was)
	}
}

// R5: the vocabulary that was handed in is neither changed nor kept.
func TestVocabNotKept(t *testing.T) {
	v := api.Vocab{Base: testaid.Roomy([]byte("ab"), 'x'), Pairs: testaid.Roomy([][2]int{{1, 2}}, [2]int{7, 7})}
	var s *server.Server
	stays(t, v.Base, 'x', func() {
		stays(t, v.Pairs, [2]int{7, 7}, func() { s = newServer(t, newModel(t, testaid.Ring()), v, exampleServe) })
	})
	connects(t, s, 0)
	says(t, s, 0, `ask 1 4 0 0 0 1000 256 0 "" "a"`, `ask 2 1 0 0 0 1000 256 0 "" "x"`)
	tells(t, s, `ok 1`, `error 2 51`, `text 1 "b"`)
	tells(t, s, `text 1 "ab"`)
	tells(t, s, `text 1 "a"`)
	tells(t, s, `text 1 "b"`, `end 1 0`)
}

// R6: two servers over one model know nothing of one another.
func TestTwoServers(t *testing.T) {
	m := newModel(t, testaid.Ring())
	run := func(beside *server.Server) []map[int][]byte {
		s := newServer(t, m, testaid.RingVocab(), testaid.RingServe)
		connects(t, s, 0)
		var out []map[int][]byte
		for range 8 {
			says(t, s, 0, `ask 1 9 3 0 0 1000 256 0 "" "abcab"`, `ask 2 3 0 900 0 1000 256 9 "" "abc"`)
			beside.Connect()
			beside.Feed(0, []byte("ask 1 5 1 0 0 1000 256 0 \"\" \"abcab\"\ncancel 2\n"))
			out = append(out, s.Tick())
			beside.Tick()
		}
		return out
	}
	alike := func(a, b map[int][]byte) bool { return maps.EqualFunc(a, b, bytes.Equal) }
	if !slices.EqualFunc(run(nil), run(ring(t, exampleServe)), alike) {
		t.Error("R6: beside another server another answer")
	}
}

// All goroutines of a Tick have ended when it answers.
func TestGoroutinesEnd(t *testing.T) {
	s := ring(t, exampleServe)
	for n := 1; n < 16; n++ {
		connects(t, s, n)
	}
	before := runtime.NumGoroutine()
	for range 50 {
		for n := range 16 {
			feeds(t, s, n, strings.Repeat("hello\n", 20))
		}
		s.Tick()
	}
	// One that has told that it is done may need a moment to be gone.
	for n := 0; runtime.NumGoroutine() > before; n++ {
		if n > 1e6 {
			t.Fatalf("%d goroutines, %d before", runtime.NumGoroutine(), before)
		}
		runtime.Gosched()
	}
}

// spent: how many bytes of memory a call takes.
func spent(call func()) uint64 {
	var before, after runtime.MemStats
	runtime.ReadMemStats(&before)
	call()
	runtime.ReadMemStats(&after)
	return after.TotalAlloc - before.TotalAlloc
}

// Of a line that is far too long no more is kept than what tells that, also where it never ends.
func TestEndlessLine(t *testing.T) {
	s := ring(t, exampleServe)
	huge := bytes.Repeat([]byte("a"), 1<<22)
	for _, size := range []int{1 << 22, 1 << 12} {
		if n := spent(func() {
			for from := 0; from < len(huge); from += size {
				s.Feed(0, huge[from:from+size])
				s.Feed(0, huge[:size])
			}
			s.Tick()
		}); n > 1<<20 {
			t.Errorf("a line of 8 MiB in pieces of %d took %d bytes of memory", size, n)
		}
	}
	// While it waits for its end a Tick needs little beside what is kept of it.
	if n := spent(func() {
		for range 100 {
			s.Tick()
		}
	}); n > 1<<22 {
		t.Errorf("100 ticks took %d bytes of memory", n)
	}
	feeds(t, s, 0, "\ncancel 1\n")
	tells(t, s, `error 0 220`, `error 1 204`)
}

// held: how many bytes are in use.
func held() uint64 {
	var m runtime.MemStats
	runtime.GC()
	runtime.ReadMemStats(&m)
	return m.HeapAlloc
}

// Of lines that were served, and of what was told, nothing is kept.
func TestServedLinesGo(t *testing.T) {
	s := ring(t, exampleServe)
	before := held()
	for range 2 {
		feeds(t, s, 0, strings.Repeat(strings.Repeat("a", 8000)+"\n", 2000)+"cancel")
		s.Tick()
	}
	if after := held(); after > before+1<<21 {
		t.Errorf("behind 32 MiB of lines %d bytes more are in use", after-before)
	}
	feeds(t, s, 0, " 1\n")
	tells(t, s, `error 1 204`)
}

// Of sessions that were closed nothing is kept, nor of their requests, but for what the engine tells of those.
func TestClosedSessionsGo(t *testing.T) {
	s := ring(t, exampleServe)
	connects(t, s, 1)
	begun := strings.Repeat("a", 8000)
	before := held()
	for range 500 {
		says(t, s, 1, `ask 1 9 0 0 0 1000 256 0 "" "a"`)
		feeds(t, s, 1, begun)
		s.Tick()
		s.Close(1)
		connects(t, s, 1)
	}
	if after := held(); after > before+1<<20 {
		t.Errorf("behind 500 sessions %d bytes more are in use", after-before)
	}
	ticks(t, s, map[int][]string{0: nil, 1: nil})
}
