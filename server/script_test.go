package server_test

import (
	"math"
	"strings"
	"testing"

	"augur/api"
	"augur/bpe"
	"augur/model"
	"augur/server"
	"augur/testaid"
	"augur/wire"
)

func newModel(t *testing.T, w api.Weights) *model.Model {
	t.Helper()
	m, e := model.New(w)
	if e != api.OK {
		t.Fatalf("no model: %d", e)
	}
	return m
}

func newServer(t *testing.T, m *model.Model, v api.Vocab, c api.Serve) *server.Server {
	t.Helper()
	s, e := server.New(m, v, c)
	if e != api.OK || s == nil {
		t.Fatalf("P23.1: %d", e)
	}
	return s
}

// play: a server and the words' desk, and what is drawn for both.
type play struct {
	t *testing.T
	d *desk
	s *server.Server
	*testaid.Asker
	stops []string
	// unsent: what each client will still send; was: had another session its number before?
	unsent [api.MaxLive]string
	was    [api.MaxLive]bool
}

func newPlay(t *testing.T, s *testaid.Source, w api.Weights, v api.Vocab) *play {
	t.Helper()
	m := newModel(t, w)
	c := s.Serve(w.Config.Len)
	return &play{t: t, d: newDesk(t, m, v, c), s: newServer(t, m, v, c), Asker: s.Asker(w.Config), stops: []string{"a", "b", "ab", "ba", "bb", "aab", "aba", "bbb", "abab", "zz"}}
}

// small: over a drawn model of few tokens.
func small(t *testing.T, s *testaid.Source) *play {
	t.Helper()
	w, v := s.Small()
	return newPlay(t, s, w, v)
}

// runes: over a drawn model whose bytes are pieces of runes.
func runes(t *testing.T, s *testaid.Source) *play {
	t.Helper()
	v := testaid.Vocab("a\xe2\x82\xac\xc3\xa9", [2]int{2, 3}, [2]int{7, 4}, [2]int{4, 1}, [2]int{5, 6})
	v.Pairs = v.Pairs[:s.Below(5)]
	p := newPlay(t, s, s.Lively(api.Config{Vocab: testaid.Tokens(v), Width: 8, Heads: 2, KV: 1, Layers: 1, Hidden: 3, Len: 24, Medusa: 2}), v)
	p.Guides = []string{`(a|\xe2\x82\xac|\xc3\xa9)+`, `a?(\xe2\x82\xac)*a+`, `[a\xe2\x82\xac\xc3\xa9]*`}
	p.stops = []string{"é", "€", "a€", "€é", "aa", "\x82\xac", "\xa9", "\xe2", "\xaca"}
	return p
}

func (p *play) connect() {
	p.t.Helper()
	want, wrong := p.d.connect()
	if n, e := p.s.Connect(); n != want || e != wrong {
		p.t.Fatalf("P23.2: %d, %d, want %d, %d", n, e, want, wrong)
	}
	if wrong == api.OK && p.was[want] {
		p.d.seen.again++
	}
}

func (p *play) close(n int) {
	p.t.Helper()
	want := p.d.close(n)
	if e := p.s.Close(n); e != want {
		p.t.Fatalf("P23.3: Close(%d): %d, want %d", n, e, want)
	}
	if want == api.OK {
		p.unsent[n], p.was[n] = "", true
	}
}

func (p *play) feed(n int, b []byte) {
	p.t.Helper()
	want := p.d.feed(n, b)
	if e := p.s.Feed(n, b); e != want {
		p.t.Fatalf("P23.4: Feed(%d): %d, want %d", n, e, want)
	}
}

func (p *play) tick() {
	p.t.Helper()
	want, is := p.d.tick(), p.s.Tick()
	if len(is) != len(want) {
		p.t.Fatalf("P23.5: %d sessions are told, want %d", len(is), len(want))
	}
	for n, told := range want {
		got, has := is[n]
		if !has || string(got) != told {
			p.t.Fatalf("P23.5: session %d is told %q, want %q", n, got, told)
		}
		p.d.reads(p.d.clients[n], string(got))
	}
}

// number: a session's, or now and then just none.
func (p *play) number() int {
	for range 50 {
		if n := p.Below(api.MaxLive); p.d.is(n) {
			return n
		}
	}
	return p.Below(api.MaxLive+4) - 2
}

func (p *play) id() int { return []int{0, 1, 2, 3, 4, 5, 77, math.MaxInt32}[p.Below(8)] }

// askLine: a request; one of many may not be.
func (p *play) askLine() string {
	a := p.Ask()
	b, _ := bpe.Decode(p.d.v, a.Prompt...)
	l := wire.Line{Word: "ask", Id: p.id(), Numbers: []int{a.New, a.Proposer, a.Params.Temp, a.Params.TopK, a.Params.TopP, a.Params.Penalty}, Seed: a.Params.Seed, Guide: a.Guide, Text: b}
	for range p.Below(4) {
		l.Stops = append(l.Stops, p.stops[p.Below(len(p.stops))])
	}
	if p.Below(2) == 0 {
		l.Stops = nil
	}
	for p.Below(8) == 0 {
		p.spoil(&l)
	}
	text, _ := wire.Print(l)
	return text
}

// spoil: something of a line is such that the request may not be.
func (p *play) spoil(l *wire.Line) {
	switch p.Below(7) {
	case 0:
		l.Text = append(l.Text, 'z')
	case 1:
		l.Text = nil
	case 2:
		l.Stops = []string{"a", strings.Repeat("a", p.Below(2)*17)}
	case 3:
		l.Stops = make([]string, 5)
	case 4:
		l.Numbers[p.Below(6)] = []int{-1, 0, 5, 70, 4000, math.MaxInt, math.MinInt}[p.Below(7)]
	case 5:
		l.Guide = []string{"(", "z", strings.Repeat("a", 70)}[p.Below(3)]
	case 6:
		l.Text = []byte(strings.Repeat("a", 30))
	}
}

// otherLine: one that is no ask.
func (p *play) otherLine() string {
	id := wire.Line{Word: "cancel", Id: p.id()}
	cancel, _ := wire.Print(id)
	if p.Below(2) == 0 {
		return cancel
	}
	return []string{"", "hello", "ok 3", "error 3 1", `text 3 "a"`, "end 1 2", cancel + " ", " " + cancel, cancel + "\r", "cancel 07", "Cancel 1", "ask", `ask 1 2 0 0 0 1000 256 0 ""`, "cancel -1", "\x00\xff", "cancel 2147483648", strings.Repeat("a", 8190+p.Below(6)), cancel + strings.Repeat(" ", 8192-len(cancel)), cancel + strings.Repeat("x", 20000)}[p.Below(19)]
}

// send: a piece of what a client sends, of any size.
func (p *play) send(n int) {
	p.t.Helper()
	for range p.Below(4) {
		if p.Below(3) > 0 {
			p.unsent[n] += p.askLine() + "\n"
		} else {
			p.unsent[n] += p.otherLine() + "\n"
		}
	}
	most := len(p.unsent[n])
	size := []int{0, min(1, most), p.Below(most + 1), most}[p.Below(4)]
	p.feed(n, []byte(p.unsent[n][:size]))
	p.unsent[n] = p.unsent[n][size:]
}

// act: one thing of a script.
func (p *play) act() {
	p.t.Helper()
	switch n := p.Below(40); {
	case n < 2:
		p.connect()
	case n == 2:
		p.close(p.number())
	case n == 3:
		n := p.Below(api.MaxLive+4) - 2
		p.feed(n, nil)
	case n < 25:
		if n := p.number(); p.d.is(n) {
			p.send(n)
		}
	default:
		p.tick()
	}
}

// end: nothing more is sent: everybody comes to an end.
func (p *play) end() {
	p.t.Helper()
	p.tick()
	for n := 0; len(p.d.g.Live()) > 0; n++ {
		if n > 2000 {
			p.t.Fatalf("W1: no end: %v", p.d.g.Live())
		}
		p.tick()
	}
	for n, c := range p.d.clients {
		if c != nil && len(c.open) > 0 {
			p.t.Fatalf("P23.6: session %d has requests whose end it was not told", n)
		}
	}
}

func (c *counts) add(o counts) {
	for e, n := range o.refused {
		c.refused[e] += n
	}
	for i, n := range o.ends {
		c.ends[i] += n
	}
	c.many += o.many
	c.out += o.out
	c.late += o.late
	c.waited += o.waited
	c.over += o.over
	c.closed += o.closed
	c.guided += o.guided
	c.words += o.words
	c.runes += o.runes
	c.rest += o.rest
	c.again += o.again
	c.lost += o.lost
	c.longs += o.longs
	c.idle += o.idle
}

// least: the lowest of the counts.
func (c counts) least() int {
	n := min(c.ends[0], c.ends[1], c.ends[2], c.many, c.out, c.late, c.waited, c.over, c.closed, c.guided, c.words, c.runes, c.rest, c.again, c.lost, c.longs, c.idle)
	for _, e := range []api.Errno{api.OK, api.ErrArg, api.ErrByte, api.ErrStop, api.ErrParams, api.ErrRegex, api.ErrGuide, api.ErrEmpty, api.ErrLong, api.ErrMany, api.ErrRequest, api.ErrLine} {
		n = min(n, c.refused[e])
	}
	return n
}

// Drawn scripts of all calls, over drawn models and measures: whatever is told is what the words say (P23.2 to P23.7, and from bytes to bytes W1, W7, W8).
func TestScripts(t *testing.T) {
	s := testaid.Source(23)
	seen := counts{refused: map[api.Errno]int{}}
	for i := range 200 {
		p := small(t, &s)
		if i%3 == 0 {
			p = runes(t, &s)
		}
		for range 2 + s.Below(3) {
			p.connect()
		}
		for range 150 {
			p.act()
		}
		p.end()
		seen.add(p.d.seen)
	}
	if seen.least() < 30 {
		t.Errorf("the scripts tell too little: %+v", seen)
	}
}
