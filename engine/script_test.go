package engine_test

import (
	"testing"

	"augur/api"
	"augur/engine"
	"augur/model"
	"augur/testaid"
)

// play: an engine and the words' book of it, and what is drawn for both.
type play struct {
	t *testing.T
	s *testaid.Source
	b *book
	g *engine.Engine
	*testaid.Asker
}

// someModel: a drawn one, with a vocabulary for it.
func someModel(t *testing.T, s *testaid.Source) (*model.Model, api.Vocab) {
	t.Helper()
	w, v := s.Small()
	return newModel(t, w), v
}

func newPlay(t *testing.T, s *testaid.Source) *play {
	t.Helper()
	m, v := someModel(t, s)
	c := s.Serve(m.Config().Len)
	return &play{t: t, s: s, b: newBook(t, m, v, c), g: newEngine(t, m, v, c), Asker: s.Asker(m.Config())}
}

func (p *play) submit() {
	p.t.Helper()
	a := p.Ask()
	if len(p.b.lives()) == api.MaxLive {
		if id, e := p.g.Submit(a); id != 0 || e != api.ErrMany {
			p.t.Fatalf("P20.2: a request too many: %d, %d", id, e)
		}
		return
	}
	want := p.b.submit(a)
	if id, e := p.g.Submit(a); id != want || e != api.OK {
		p.t.Fatalf("P20.2: %+v: %d, %d, want %d", a, id, e, want)
	}
}

// raw: guesses for a request.
func (p *play) raw(r *row) []api.RawNode { return p.Raw(r.ref[r.told:]) }

func (p *play) offer(id int) {
	p.t.Helper()
	r := p.b.live(id)
	switch {
	case r == nil:
		if e := p.g.Offer(id, nil); e != api.ErrRequest {
			p.t.Fatalf("P20.3: offered to %d: %d", id, e)
		}
	case r.ask.Proposer != api.PRaw:
		if e := p.g.Offer(id, p.raw(r)); e != api.ErrArg {
			p.t.Fatalf("P20.3: offered to %d, which is no PRaw: %d", id, e)
		}
	default:
		r.offer = p.raw(r)
		if e := p.g.Offer(id, r.offer); e != api.OK {
			p.t.Fatalf("P20.3: offered to %d: %d", id, e)
		}
	}
}

func (p *play) cancel(id int) {
	p.t.Helper()
	want := api.ErrRequest
	if p.b.live(id) != nil {
		want = api.OK
		p.b.cancel(id)
	}
	if e := p.g.Cancel(id); e != want {
		p.t.Fatalf("P20.4: Cancel(%d): %d, want %d", id, e, want)
	}
}

// someone: a number that is a request's, or just none.
func (p *play) someone() int { return p.s.Below(len(p.b.rows) + 2) }

func (p *play) step(picks ...int) {
	p.t.Helper()
	want, is := p.b.step(picks...), p.g.Step(picks...)
	if !testaid.SameReport(is, want) {
		p.t.Fatalf("P20.15: picked %v: %+v, want %+v", picks, is, want)
	}
	p.withinBounds(is)
}

// withinBounds: W10 of a step.
func (p *play) withinBounds(r api.Report) {
	p.t.Helper()
	sum := 0
	for _, d := range r.Did {
		sum += d.Prefill + d.Nodes
		if d.Nodes > p.b.c.Tree || d.Prefill > p.b.c.Chunk {
			p.t.Fatalf("W10: %+v", d)
		}
	}
	if sum != r.Slots || sum > p.b.c.Budget {
		p.t.Fatalf("W10: %d slots, %d of %d", r.Slots, sum, p.b.c.Budget)
	}
}

// picks: some, in any order, with numbers twice and numbers of nobody.
func (p *play) picks() []int {
	var out []int
	for _, id := range p.b.lives() {
		if p.s.Below(4) > 0 {
			out = append(out, id)
		}
	}
	if p.s.Below(4) == 0 {
		out = append(out, p.someone(), p.someone(), -1, 1<<62)
	}
	for i := range out {
		j := p.s.Below(len(out))
		out[i], out[j] = out[j], out[i]
	}
	return out
}

// act: one thing of a script.
func (p *play) act() {
	p.t.Helper()
	switch n := p.s.Below(20); {
	case n < 4:
		p.submit()
	case n == 4:
		p.cancel(p.someone())
	case n == 5:
		p.offer(p.someone())
	default:
		for _, id := range p.b.lives() {
			if p.b.live(id).ask.Proposer == api.PRaw && p.s.Below(3) > 0 {
				p.offer(id)
			}
		}
		p.step(p.picks()...)
	}
	p.b.agree(p.t, p.g)
}

// add: what another script came by.
func (c *counts) add(o counts) {
	c.shared += o.shared
	c.out += o.out
	c.shrunk += o.shrunk
	c.straight += o.straight
	c.crooked += o.crooked
	c.wrong += o.wrong
	c.others += o.others
	c.again += o.again
	c.ended += o.ended
	c.guided += o.guided
	c.vectorless += o.vectorless
}

// least: the lowest of the counts.
func (c counts) least() int {
	return min(c.shared, c.out, c.shrunk, c.straight, c.crooked, c.wrong, c.others, c.again, c.ended, c.guided, c.vectorless)
}

// Drawn scripts of all calls, over drawn models and measures: whatever is told is what the words say (P20.2 to P20.15, W1 to W4, W10).
func TestScripts(t *testing.T) {
	s := testaid.Source(20)
	var seen counts
	for range 300 {
		p := newPlay(t, &s)
		for range 80 {
			p.act()
		}
		seen.add(p.b.seen)
	}
	if seen.least() < 50 {
		t.Errorf("the scripts tell too little: %+v", seen)
	}
}
