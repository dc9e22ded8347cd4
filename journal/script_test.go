package journal_test

import (
	"slices"
	"testing"

	"augur/api"
	"augur/journal"
	"augur/testaid"
)

// play: a journal and the words' diary of it, and what is drawn for both.
type play struct {
	t *testing.T
	d *diary
	j *journal.Journal
	*testaid.Asker
	seen counts
}

// counts: how often what a test wants to see came about.
type counts struct {
	refused, offers, cancels, compacts, over, begun, kept, more, moved, out, opened, cutStart, cutCalls int
}

func (c *counts) add(o counts) {
	c.refused += o.refused
	c.offers += o.offers
	c.cancels += o.cancels
	c.compacts += o.compacts
	c.over += o.over
	c.begun += o.begun
	c.kept += o.kept
	c.more += o.more
	c.moved += o.moved
	c.out += o.out
	c.opened += o.opened
	c.cutStart += o.cutStart
	c.cutCalls += o.cutCalls
}

func (c counts) least() int {
	return min(c.refused, c.offers, c.cancels, c.compacts, c.over, c.begun, c.kept, c.more, c.moved, c.out, c.opened, c.cutStart, c.cutCalls)
}

func newPlay(t *testing.T, s *testaid.Source) *play {
	t.Helper()
	w, v := s.Small()
	m := newModel(t, w)
	c := s.Serve(w.Config.Len)
	return &play{t: t, d: newDiary(t, m, v, c), j: newJournal(t, m, v, c), Asker: s.Asker(w.Config)}
}

// someone: a number that is a request's, or just none.
func (p *play) someone() int { return p.Below(len(p.d.rows)+3) - 1 }

func (p *play) submit() {
	p.t.Helper()
	a := p.Ask()
	if p.Below(8) == 0 {
		a.New = []int{0, -1, p.Long}[p.Below(3)]
	}
	want, wrong := p.d.submit(a)
	if id, e := p.j.Submit(a); id != want || e != wrong {
		p.t.Fatalf("P21.2: %+v: %d, %d, want %d, %d", a, id, e, want, wrong)
	}
	if wrong != api.OK {
		p.seen.refused++
	}
}

// next: the tokens of Ref that a request was not told yet.
func (p *play) next(id int) []int {
	return p.d.ref(id)[len(p.d.state(id).Tokens):]
}

func (p *play) offer(id int) {
	p.t.Helper()
	var raw []api.RawNode
	if id >= 1 && id <= len(p.d.rows) {
		raw = p.Raw(p.next(id))
	}
	want := p.d.offer(id, raw)
	if e := p.j.Offer(id, raw); e != want {
		p.t.Fatalf("P21.3: Offer(%d): %d, want %d", id, e, want)
	}
	if want == api.OK {
		p.seen.offers++
	}
}

func (p *play) cancel(id int) {
	p.t.Helper()
	want := p.d.cancel(id)
	if e := p.j.Cancel(id); e != want {
		p.t.Fatalf("P21.3: Cancel(%d): %d, want %d", id, e, want)
	}
	if want == api.OK {
		p.seen.cancels++
	}
}

func (p *play) compact() {
	p.d.compact()
	p.j.Compact()
	p.seen.compacts++
	for _, r := range p.d.rows {
		switch {
		case r.at == 0:
			p.seen.over++
		case len(r.kept) > 0:
			p.seen.begun++
		}
	}
}

// picks: some, in any order, with numbers twice and numbers of nobody.
func (p *play) picks() []int {
	var out []int
	for _, id := range p.d.lives() {
		if p.Below(5) > 0 {
			out = append(out, id)
		}
	}
	if p.Below(4) == 0 {
		out = append(out, p.someone(), p.someone(), -1, 1<<62)
	}
	for i := range out {
		k := p.Below(len(out))
		out[i], out[k] = out[k], out[i]
	}
	return out
}

func (p *play) step(picks ...int) {
	p.t.Helper()
	want, is := p.d.step(picks...), p.j.Step(picks...)
	if !testaid.SameReport(is, want) {
		p.t.Fatalf("P21.4: picked %v: %+v, want %+v", picks, is, want)
	}
	p.seen.out += len(is.Out)
	for _, did := range is.Did {
		if p.d.at(did.Id) != did.Id {
			p.seen.moved++
		}
	}
}

// reopen: the play goes on with the journal that Open makes of the whole book.
func (p *play) reopen() {
	p.t.Helper()
	book := p.j.Book()
	p.j = p.d.opens(p.t, "P21.8", book, len(book))
	p.seen.opened++
}

// cut: Open of the first bytes of the book; now and then the play goes on with it.
func (p *play) cut() {
	p.t.Helper()
	book := p.j.Book()
	most := p.Below(len(book) + 1)
	pages, size := p.d.wholePages(most)
	j := p.d.opens(p.t, "P21.8", book[:most], size)
	d := p.d.first(max(pages, 1))
	d.agree(p.t, "P21.8: the first bytes", j)
	if pages < len(p.d.pages) && pages > 0 {
		if letter := p.d.pages[pages][0]; letter == 'D' || letter == 'L' {
			p.seen.cutStart++
		} else {
			p.seen.cutCalls++
		}
	}
	if p.Below(3) == 0 {
		p.d, p.j = d, j
	}
}

// act: one thing of a script.
func (p *play) act() {
	p.t.Helper()
	switch n := p.Below(32); {
	case n < 6:
		p.submit()
	case n == 6:
		p.cancel(p.someone())
	case n == 7:
		p.offer(p.someone())
	case n == 8:
		p.compact()
	case n == 9:
		p.reopen()
	case n == 10:
		p.cut()
	default:
		for _, id := range p.d.lives() {
			if p.d.rows[id-1].ask.Proposer == api.PRaw && p.Below(3) > 0 {
				p.offer(id)
			}
		}
		p.step(p.picks()...)
	}
	p.d.agree(p.t, "behind each call", p.j)
	p.isRef()
}

// isRef: W9: what was told is a first part of Ref, and all of it once the request is Done.
func (p *play) isRef() {
	p.t.Helper()
	for i, r := range p.d.rows {
		s, _ := p.j.Poll(i + 1)
		ref := p.d.ref(i + 1)
		if n := len(s.Tokens); n > len(ref) || !slices.Equal(s.Tokens, ref[:n]) || s.Status == api.Done && n < len(ref) {
			p.t.Fatalf("W9: request %d of %+v: %v, want %v", i+1, r.ask, s, ref)
		}
		if r.at == 0 {
			continue
		}
		inner, _ := p.d.g.Poll(r.at)
		if len(inner.Tokens) < len(r.kept) {
			p.seen.kept++
		} else if len(r.kept) > 0 {
			p.seen.more++
		}
	}
}

// end: everybody who is not cancelled comes to Ref.
func (p *play) end() {
	p.t.Helper()
	for n := 0; len(p.j.Live()) > 0; n++ {
		if n > 2000 {
			p.t.Fatalf("W9: no end: %v", p.j.Live())
		}
		p.step(p.j.Live()...)
	}
	p.d.agree(p.t, "at the end", p.j)
	p.isRef()
}

// Drawn scripts of all calls, with Compact and Open of the book and of its first bytes among them: whatever is told is what the words say (P21.2 to P21.8, W9).
func TestScripts(t *testing.T) {
	s := testaid.Source(21)
	var seen counts
	for range 150 {
		p := newPlay(t, &s)
		for range 70 {
			p.act()
		}
		p.end()
		seen.add(p.seen)
	}
	if seen.least() < 30 {
		t.Errorf("the scripts tell too little: %+v", seen)
	}
}

// W9: whatever number of entries, and of bytes behind them, is left of a book: each request in them comes to Ref.
func TestEveryBeginning(t *testing.T) {
	s := testaid.Source(9)
	for range 12 {
		p := newPlay(t, &s)
		for range 40 {
			p.act()
		}
		book := p.j.Book()
		for most := 0; most <= len(book); most += 1 + s.Below(7) {
			pages, size := p.d.wholePages(most)
			q := &play{t: t, d: p.d.first(max(pages, 1)), Asker: p.Asker}
			q.j = p.d.opens(t, "P21.7", book[:most], size)
			q.d.agree(t, "P21.8: the first bytes", q.j)
			q.end()
		}
	}
}

// What follows: a journal without a Compact answers what an engine answers that is told the same.
func TestAsAnEngine(t *testing.T) {
	s := testaid.Source(7)
	for range 40 {
		p := newPlay(t, &s)
		g := p.d.g
		for range 60 {
			if a := p.Ask(); s.Below(3) == 0 {
				id, e := p.j.Submit(a)
				if want, wrong := g.Submit(a); id != want || e != wrong {
					t.Fatalf("P21.2: %d, %d, the engine's %d, %d", id, e, want, wrong)
				}
			}
			id := s.Below(20)
			if s.Below(8) == 0 && p.j.Cancel(id) != g.Cancel(id) {
				t.Fatalf("P21.3: Cancel(%d) is not the engine's", id)
			}
			if raw := testaid.RawOf(-1, 1, 0, 2); p.j.Offer(id, raw) != g.Offer(id, raw) {
				t.Fatalf("P21.3: Offer(%d) is not the engine's", id)
			}
			picks := append(g.Live(), s.Below(20), -1)
			picks = picks[s.Below(len(picks)):]
			if is, want := p.j.Step(picks...), g.Step(picks...); !testaid.SameReport(is, want) {
				t.Fatalf("P21.4: %+v, the engine's %+v", is, want)
			}
			state, e := p.j.Poll(id)
			if want, wrong := g.Poll(id); e != wrong || !testaid.SameState(state, want) || !slices.Equal(p.j.Live(), g.Live()) {
				t.Fatalf("P21.5: request %d: %v, %d, the engine's %v, %d", id, state, e, want, wrong)
			}
		}
	}
}
