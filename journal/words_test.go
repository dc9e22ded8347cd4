package journal_test

import (
	"bytes"
	"encoding/binary"
	"hash/fnv"
	"slices"
	"testing"

	"augur/api"
	"augur/engine"
	"augur/journal"
	"augur/model"
	"augur/testaid"
)

// The chapter's words, said a second time. No book is read here: what the first entries of a book come to is found by doing again what they were written for.

var little = binary.LittleEndian

// fnv1a: chapter 4's digest.
func fnv1a(b []byte) uint64 {
	h := fnv.New64a()
	h.Write(b)
	return h.Sum64()
}

// page: an entry.
func page(letter byte, body ...byte) []byte {
	b := append(little.AppendUint32([]byte{letter}, uint32(len(body))), body...)
	return little.AppendUint64(b, fnv1a(b))
}

// short: a list of small numbers and how many they are.
func short(numbers ...int) []byte {
	b := []byte{byte(len(numbers))}
	for _, n := range numbers {
		b = append(b, byte(n))
	}
	return b
}

// ids: numbers of requests.
func ids(numbers ...uint64) []byte {
	var b []byte
	for _, n := range numbers {
		b = little.AppendUint64(b, n)
	}
	return b
}

// headBody: the body of an H.
func headBody(t *testing.T, m *model.Model, v api.Vocab, c api.Serve) []byte {
	t.Helper()
	file, e := model.Encode(m.Weights())
	if e != api.OK {
		t.Fatalf("no file: %d", e)
	}
	letters := append([]byte{byte(len(v.Base))}, v.Base...)
	letters = append(letters, byte(len(v.Pairs)))
	for _, p := range v.Pairs {
		letters = append(letters, byte(p[0]), byte(p[1]))
	}
	b := ids(fnv1a(file), fnv1a(letters))
	for _, n := range []int{c.Blocks, c.Block, c.Budget, c.Chunk, c.Tree} {
		b = little.AppendUint16(b, uint16(n))
	}
	return b
}

// askBody: an ask's bytes.
func askBody(a api.Ask) []byte {
	b := append(short(a.Prompt...), byte(a.New))
	b = little.AppendUint16(b, uint16(a.Params.Temp))
	b = append(b, byte(a.Params.TopK))
	b = little.AppendUint16(b, uint16(a.Params.TopP))
	b = little.AppendUint16(b, uint16(a.Params.Penalty))
	b = little.AppendUint64(b, a.Params.Seed)
	b = append(b, byte(a.Proposer), byte(len(a.Guide)))
	return append(b, a.Guide...)
}

// offerBody: the body of an O.
func offerBody(id uint64, raw []api.RawNode) []byte {
	b := little.AppendUint32(ids(id), uint32(len(raw)))
	for _, n := range raw {
		b = append(b, ids(uint64(int64(n.Parent)), uint64(int64(n.Token)))...)
	}
	return b
}

// stepPage: a T.
func stepPage(picked ...uint64) []byte {
	return page('T', append([]byte{byte(len(picked))}, ids(picked...)...)...)
}

// row: a request as the words tell it.
type row struct {
	ask  api.Ask
	at   int // its number in the engine; 0: it was over when the book began
	over int // and with which status
	kept []int
}

// diary: a journal as the words tell it, over an engine of its own.
type diary struct {
	t    *testing.T
	m    *model.Model
	v    api.Vocab
	c    api.Serve
	g    *engine.Engine
	rows []row
	// pages: the book's entries; deeds: what those behind the first were written for.
	pages [][]byte
	deeds []func(d *diary)
	refs  map[string][]int
}

func newDiary(t *testing.T, m *model.Model, v api.Vocab, c api.Serve) *diary {
	t.Helper()
	g, e := engine.New(m, v, c)
	if e != api.OK {
		t.Fatalf("no engine: %d", e)
	}
	return &diary{t: t, m: m, v: v, c: c, g: g, pages: [][]byte{page('H', headBody(t, m, v, c)...)}, refs: map[string][]int{}}
}

// anew: a diary without requests, of the same engine.
func (d *diary) anew() *diary {
	out := newDiary(d.t, d.m, d.v, d.c)
	out.refs = d.refs
	return out
}

// ref: Ref of a request.
func (d *diary) ref(id int) []int {
	d.t.Helper()
	a := d.rows[id-1].ask
	key := string(askBody(a))
	if _, is := d.refs[key]; !is {
		ref, e := testaid.Ref(d.m, d.v, a)
		if e != api.OK {
			d.t.Fatalf("no Ref of %+v: %d", a, e)
		}
		d.refs[key] = ref
	}
	return d.refs[key]
}

// first: the diary as it was behind the first so many of its pages.
func (d *diary) first(pages int) *diary {
	out := d.anew()
	for _, do := range d.deeds[:pages-1] {
		do(out)
	}
	return out
}

func (d *diary) write(p []byte, do func(d *diary)) {
	d.pages, d.deeds = append(d.pages, p), append(d.deeds, do)
}

func (d *diary) book() []byte { return slices.Concat(d.pages...) }

// wholePages: how many pages lie whole in the first so many bytes; how many bytes these have.
func (d *diary) wholePages(most int) (pages, size int) {
	for _, p := range d.pages {
		if size+len(p) > most {
			break
		}
		size += len(p)
		pages++
	}
	return pages, size
}

func (d *diary) submit(a api.Ask) (int, api.Errno) {
	a.Prompt = slices.Clone(a.Prompt)
	at, e := d.g.Submit(a)
	if e != api.OK {
		return 0, e
	}
	d.rows = append(d.rows, row{ask: a, at: at})
	d.write(page('S', askBody(a)...), func(d *diary) { d.submit(a) })
	return len(d.rows), api.OK
}

// beginLive: an L.
func (d *diary) beginLive(a api.Ask, kept []int) {
	at, e := d.g.Submit(a)
	if e != api.OK {
		d.t.Fatalf("P21.6: an ask is accepted no more: %d", e)
	}
	d.rows = append(d.rows, row{ask: a, at: at, kept: kept})
	d.write(page('L', append(askBody(a), short(kept...)...)...), func(d *diary) { d.beginLive(a, kept) })
}

// beginOver: a D.
func (d *diary) beginOver(a api.Ask, s api.State) {
	d.rows = append(d.rows, row{ask: a, over: s.Status, kept: s.Tokens})
	d.write(page('D', append([]byte{byte(s.Status)}, short(s.Tokens...)...)...), func(d *diary) { d.beginOver(a, s) })
}

// at: the engine's number of a request; 0, if there is none.
func (d *diary) at(id int) int {
	if id < 1 || id > len(d.rows) {
		return 0
	}
	return d.rows[id-1].at
}

// outer: the number of the engine's request.
func (d *diary) outer(at int) int {
	return 1 + slices.IndexFunc(d.rows, func(r row) bool { return r.at == at })
}

func (d *diary) offer(id int, raw []api.RawNode) api.Errno {
	raw = slices.Clone(raw)
	e := d.g.Offer(d.at(id), raw)
	if e == api.OK {
		d.write(page('O', offerBody(uint64(id), raw)...), func(d *diary) { d.offer(id, raw) })
	}
	return e
}

func (d *diary) cancel(id int) api.Errno {
	e := d.g.Cancel(d.at(id))
	if e == api.OK {
		d.write(page('X', ids(uint64(id))...), func(d *diary) { d.cancel(id) })
	}
	return e
}

func (d *diary) step(picks ...int) api.Report {
	var inner []int
	var picked []uint64
	for _, id := range d.lives() {
		if slices.Contains(picks, id) {
			inner, picked = append(inner, d.at(id)), append(picked, uint64(id))
		}
	}
	picks = slices.Clone(picks)
	d.write(stepPage(picked...), func(d *diary) { d.step(picks...) })
	r := d.g.Step(inner...)
	for i := range r.Did {
		r.Did[i].Id = d.outer(r.Did[i].Id)
	}
	for i := range r.Out {
		r.Out[i] = d.outer(r.Out[i])
	}
	return r
}

// state: what Poll tells of a request that there is.
func (d *diary) state(id int) api.State {
	r := d.rows[id-1]
	if r.at == 0 {
		return api.State{Status: r.over, Tokens: r.kept}
	}
	s, e := d.g.Poll(r.at)
	if e != api.OK {
		d.t.Fatalf("the engine has no request %d: %d", r.at, e)
	}
	if len(r.kept) > len(s.Tokens) {
		s.Tokens = r.kept
	}
	return s
}

func (d *diary) isLive(id int) bool {
	return slices.Contains([]int{api.Waiting, api.Running}, d.state(id).Status)
}

func (d *diary) lives() []int {
	var live []int
	for i := range d.rows {
		if d.isLive(i + 1) {
			live = append(live, i+1)
		}
	}
	return live
}

func (d *diary) compact() {
	next := d.anew()
	for i, r := range d.rows {
		if s := d.state(i + 1); d.isLive(i + 1) {
			next.beginLive(r.ask, s.Tokens)
		} else {
			next.beginOver(r.ask, s)
		}
	}
	*d = *next
}

// agree: all that a journal tells is what the words say.
func (d *diary) agree(t *testing.T, what string, j *journal.Journal) {
	t.Helper()
	if b := j.Book(); !bytes.Equal(b, d.book()) {
		t.Fatalf("%s: the book is %v, want %v", what, b, d.book())
	}
	if live := j.Live(); !slices.Equal(live, d.lives()) {
		t.Fatalf("%s: live are %v, want %v", what, live, d.lives())
	}
	for id := -1; id <= len(d.rows)+1; id++ {
		want, wrong := api.State{}, api.ErrRequest
		if id >= 1 && id <= len(d.rows) {
			want, wrong = d.state(id), api.OK
		}
		if s, e := j.Poll(id); e != wrong || !testaid.SameState(s, want) {
			t.Fatalf("%s: request %d: %v, %d, want %v, %d", what, id, s, e, want, wrong)
		}
	}
}

func newModel(t *testing.T, w api.Weights) *model.Model {
	t.Helper()
	m, e := model.New(w)
	if e != api.OK {
		t.Fatalf("no model: %d", e)
	}
	return m
}

func newJournal(t *testing.T, m *model.Model, v api.Vocab, c api.Serve) *journal.Journal {
	t.Helper()
	j, e := journal.New(m, v, c)
	if e != api.OK || j == nil {
		t.Fatalf("P21.1: no journal: %d", e)
	}
	return j
}

// opens: Open of a book of which just so many bytes are good.
func (d *diary) opens(t *testing.T, what string, book []byte, want int) *journal.Journal {
	t.Helper()
	j, n, e := journal.Open(d.m, d.v, d.c, book)
	if j == nil || n != want || e != api.OK {
		t.Fatalf("%s: Open of %d bytes: %d, %d, want %d", what, len(book), n, e, want)
	}
	return j
}
