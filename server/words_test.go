package server_test

import (
	"fmt"
	"strings"
	"testing"
	"unicode/utf8"

	"augur/api"
	"augur/bpe"
	"augur/engine"
	"augur/model"
	"augur/regex"
	"augur/testaid"
	"augur/text"
	"augur/wire"
)

// The chapter's words said a second time: all that came of each session is kept, and each request's text is worked out anew in each tick, from all of its tokens.

// client: a session as the words tell it.
type client struct {
	input string
	lines int // so many of its lines were served
	told  string
	reader
}

// row: a request that was accepted.
type row struct {
	client *client
	id     int
	stops  []string
	expr   string
	open   bool
	given  int // so many bytes of its text were told
	ref    []int
	// text: what the tokens of Ref spell up to where the first stop begins; spelled: all that they spell.
	text, spelled string
}

// desk: a server as the words tell it, over an engine of its own.
type desk struct {
	t       *testing.T
	m       *model.Model
	v       api.Vocab
	g       *engine.Engine
	clients [api.MaxLive]*client
	rows    []*row // the first has the number 1 in the engine
	seen    counts
}

// counts: how often what a test wants to see came about.
type counts struct {
	refused                        map[api.Errno]int
	ends                           [3]int
	many, out, late, waited, over  int // several tokens told at once; tables lost; tokens behind a stop; bytes that waited at an end; stopped by the last token
	closed, guided, words, runes   int // open requests of a session that was closed; texts held against an expression; whole words; pieces with a longer rune
	rest, again, lost, longs, idle int // lines begun in one tick and ended in another; numbers given again; lines of a session that was closed; lines that are too long; sessions that are told nothing
}

func newDesk(t *testing.T, m *model.Model, v api.Vocab, c api.Serve) *desk {
	t.Helper()
	g, e := engine.New(m, v, c)
	if e != api.OK {
		t.Fatalf("no engine: %d", e)
	}
	return &desk{t: t, m: m, v: v, g: g, seen: counts{refused: map[api.Errno]int{}}}
}

func (d *desk) connect() (int, api.Errno) {
	for n, c := range d.clients {
		if c == nil {
			d.clients[n] = &client{reader: reader{open: map[int]*reading{}}}
			return n, api.OK
		}
	}
	return 0, api.ErrSession
}

func (d *desk) is(n int) bool { return n >= 0 && n < api.MaxLive && d.clients[n] != nil }

func (d *desk) close(n int) api.Errno {
	if !d.is(n) {
		return api.ErrSession
	}
	for i, r := range d.rows {
		if r.open && r.client == d.clients[n] {
			d.g.Cancel(i + 1)
			r.open = false
			d.seen.closed++
		}
	}
	if strings.Count(d.clients[n].input, "\n") > d.clients[n].lines {
		d.seen.lost++
	}
	d.clients[n] = nil
	return api.OK
}

func (d *desk) feed(n int, b []byte) api.Errno {
	if !d.is(n) {
		return api.ErrSession
	}
	d.clients[n].input += string(b)
	return api.OK
}

func (c *client) tell(format string, args ...any) { c.told += fmt.Sprintf(format+"\n", args...) }

// tick: what each open session is told.
func (d *desk) tick() map[int]string {
	d.t.Helper()
	for _, c := range d.clients {
		if c == nil {
			continue
		}
		lines := strings.Split(c.input, "\n")
		whole := lines[:len(lines)-1]
		for _, line := range whole[c.lines:] {
			d.serve(c, line)
		}
		c.lines = len(whole)
		if lines[len(whole)] != "" {
			d.seen.rest++
		}
	}
	report := d.g.Step(d.g.Live()...)
	d.seen.out += len(report.Out)
	for i, r := range d.rows {
		if r.open {
			d.goesOn(i+1, r)
		}
	}
	told := map[int]string{}
	for n, c := range d.clients {
		if c != nil {
			told[n], c.told = c.told, ""
			if told[n] == "" {
				d.seen.idle++
			}
		}
	}
	return told
}

func (d *desk) serve(c *client, line string) {
	d.t.Helper()
	if len(line) > api.MaxLine {
		d.seen.longs++
	}
	l, e := wire.Parse(line)
	switch {
	case e == api.OK && l.Word == "ask":
		e := d.ask(c, l)
		d.seen.refused[e]++
		if e != api.OK {
			c.tell("error %d %d", l.Id, e)
		} else {
			c.tell("ok %d", l.Id)
		}
	case e == api.OK && l.Word == "cancel":
		number := d.number(c, l.Id)
		if number == 0 {
			c.tell("error %d 204", l.Id)
			return
		}
		d.g.Cancel(number)
		c.tell("end %d 2", l.Id)
		d.rows[number-1].open = false
		d.seen.ends[2]++
	default:
		c.tell("error 0 220")
		d.seen.refused[api.ErrLine]++
	}
}

// number: the engine's, of an open request; 0: none.
func (d *desk) number(c *client, id int) int {
	for i, r := range d.rows {
		if r.open && r.client == c && r.id == id {
			return i + 1
		}
	}
	return 0
}

func (d *desk) ask(c *client, l wire.Line) api.Errno {
	d.t.Helper()
	if d.number(c, l.Id) != 0 {
		return api.ErrRequest
	}
	tokens, e := bpe.Encode(d.v, l.Text)
	if e != api.OK {
		return e
	}
	if _, e := text.New(d.v, l.Stops...); e != api.OK {
		return e
	}
	a := api.Ask{Prompt: tokens, New: l.Numbers[0], Proposer: l.Numbers[1], Guide: l.Guide}
	a.Params.Temp, a.Params.TopK, a.Params.TopP, a.Params.Penalty, a.Params.Seed = l.Numbers[2], l.Numbers[3], l.Numbers[4], l.Numbers[5], l.Seed
	number, e := d.g.Submit(a)
	if e != api.OK {
		return e
	}
	ref, e := testaid.Ref(d.m, d.v, a)
	if e != api.OK || number != len(d.rows)+1 {
		d.t.Fatalf("number %d, no Ref of %+v: %d", number, a, e)
	}
	r := &row{client: c, id: l.Id, stops: l.Stops, expr: l.Guide, open: true, ref: ref}
	for _, token := range ref {
		r.spelled += testaid.Spelled(d.v, token)
	}
	r.text = upToStop(r.spelled, l.Stops)
	d.rows = append(d.rows, r)
	return api.OK
}

// upToStop: what stands ahead of where the first stop begins.
func upToStop(all string, stops []string) string {
	for n := range len(all) + 1 {
		longest := 0
		for _, stop := range stops {
			if strings.HasSuffix(all[:n], stop) {
				longest = max(longest, len(stop))
			}
		}
		if longest > 0 {
			return all[:n-longest]
		}
	}
	return all
}

// goesOn: what a request is told behind a step.
func (d *desk) goesOn(number int, r *row) {
	d.t.Helper()
	state, _ := d.g.Poll(number)
	stream, _ := text.New(d.v, r.stops...)
	given := ""
	for i, token := range state.Tokens {
		if token == api.End {
			continue
		}
		if stream.Over() {
			d.seen.late++
		}
		piece, _ := stream.Feed(token)
		given += string(piece)
		if stream.Over() && i == len(state.Tokens)-1 && state.Status == api.Done {
			d.seen.over++
		}
	}
	over := stream.Over()
	if rest := string(stream.Close()); !over && state.Status == api.Done {
		given += rest
		if rest != "" {
			d.seen.waited++
		}
	}
	piece := given[r.given:]
	r.given = len(given)
	if piece != "" {
		r.client.tell("text %d %s", r.id, wire.Quote([]byte(piece)))
	}
	if len(piece) > 3 {
		d.seen.many++
	}
	switch {
	case over:
		d.g.Cancel(number)
		r.client.tell("end %d 1", r.id)
		r.open = false
		d.seen.ends[1]++
	case state.Status == api.Done:
		r.client.tell("end %d 0", r.id)
		r.open = false
		d.seen.ends[0]++
	}
}

// reader: a client who reads what it is told, and holds it against Ref.
type reader struct {
	asked int // so many of its session's rows were told to be ok
	open  map[int]*reading
}

// reading: a request as its client has it.
type reading struct {
	*row
	got string
}

// next: the row that the client's next ok tells of.
func (d *desk) next(c *client) *row {
	d.t.Helper()
	n := 0
	for _, r := range d.rows {
		if r.client == c {
			if n == c.asked {
				c.asked++
				return r
			}
			n++
		}
	}
	d.t.Fatalf("P23.6: an ok too many")
	return nil
}

// reads: P23.6, W1, W7 and W8 of what a session was told.
func (d *desk) reads(c *client, told string) {
	d.t.Helper()
	lines := strings.Split(told, "\n")
	if lines[len(lines)-1] != "" {
		d.t.Fatalf("P23.5: no byte 10 at the end of %q", told)
	}
	for _, text := range lines[:len(lines)-1] {
		l, e := wire.Parse(text)
		if e != api.OK {
			d.t.Fatalf("P23.5: %q is no line", text)
		}
		r := c.open[l.Id]
		switch l.Word {
		case "ok":
			if r != nil {
				d.t.Fatalf("P23.6: two requests are %d", l.Id)
			}
			c.open[l.Id] = &reading{row: d.next(c)}
		case "text":
			if r == nil || len(l.Text) == 0 {
				d.t.Fatalf("P23.6: %q without a request, or without bytes", text)
			}
			d.readsText(r, string(l.Text))
		case "end":
			if r == nil {
				d.t.Fatalf("P23.6: %q without a request", text)
			}
			d.readsEnd(r, l.Numbers[0])
			delete(c.open, l.Id)
		}
	}
}

func (d *desk) readsText(r *reading, piece string) {
	d.t.Helper()
	r.got += piece
	if !strings.HasPrefix(r.text, r.got) {
		d.t.Fatalf("P23.6, W1: request %d is told %q, but Ref spells %q up to its first stop", r.id, r.got, r.text)
	}
	valid := utf8.ValidString(r.spelled)
	for _, stop := range r.stops {
		valid = valid && utf8.ValidString(stop)
	}
	if valid && !utf8.ValidString(piece) {
		d.t.Fatalf("W8: the piece %q of %q", piece, r.spelled)
	}
	if valid && len(piece) > utf8.RuneCountInString(piece) {
		d.seen.runes++
	}
	if r.expr != "" && !begins(r.expr, r.got, false) {
		d.t.Fatalf("W7: %q begins no word of %q", r.got, r.expr)
	}
}

func (d *desk) readsEnd(r *reading, how int) {
	d.t.Helper()
	stopped := r.text != r.spelled // no stop is without bytes
	switch {
	case how == 2:
	case how > 2 || how < 0 || r.got != r.text || stopped != (how == 1):
		d.t.Fatalf("P23.6, W1: request %d ends by %d with %q, but Ref spells %q, %q up to its first stop", r.id, how, r.got, r.spelled, r.text)
	case r.expr != "":
		d.seen.guided++
		if how == 0 && r.ref[len(r.ref)-1] == api.End {
			d.seen.words++
			if !begins(r.expr, r.got, true) {
				d.t.Fatalf("W7: %q is no word of %q", r.got, r.expr)
			}
		}
	}
}

// begins: does the text begin a word of the expression, or is it one?
func begins(expr, text string, whole bool) bool {
	a, _, _ := regex.Compile(expr)
	state := 0
	for _, b := range []byte(text) {
		if state, _ = a.Next(state, b); state < 0 {
			return false
		}
	}
	return !whole || a.Accepts(state)
}
