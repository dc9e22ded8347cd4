package bestof_test

import (
	"math"
	"slices"
	"testing"

	"augur/api"
	"augur/bestof"
	"augur/engine"
	"augur/testaid"
)

// play: an engine that has batches, and beside it another engine, to which their requests are submitted by hand.
type play struct {
	t     *testing.T
	under *engine.Engine // the batches'
	plain *engine.Engine
	vocab api.Vocab
	*testaid.Asker
	judges  []*judge  // the engine's own model is the first
	asks    []api.Ask // those that were accepted; the first is number 1
	proper  []*lot    // as the words tell them, of the plain engine
	batches []*bestof.Batch
	seen    counts
}

// counts: how often what a test wants to see came about.
type counts struct {
	none, many, refused, wrapped, beside              int // Starts: with n below 1, with too many, of what is no request, with seeds that wrap round, with others live
	early, cancelled, long, foreign, unlike           int // Bests: while some are live, without cancelled ones, with an error, with two errors
	alike, near, far, moved, over, open, own, another int // answers: the same as the one ahead, of alike gaps, of unlike gaps, not in the order of the numbers; over, not over; the judges
	out, guided                                       int // tables lost, guided ones
}

func (c *counts) all() []*int {
	return []*int{&c.none, &c.many, &c.refused, &c.wrapped, &c.beside, &c.early, &c.cancelled, &c.long, &c.foreign, &c.unlike, &c.alike, &c.near, &c.far, &c.moved, &c.over, &c.open, &c.own, &c.another, &c.out, &c.guided}
}

func (c *counts) add(o counts) {
	for i, n := range o.all() {
		*c.all()[i] += *n
	}
}

func (c *counts) least() int {
	least := *c.all()[0]
	for _, n := range c.all() {
		least = min(least, *n)
	}
	return least
}

// judgesFor: the model itself, one that likes all tokens alike, one with close logits, and one of fewer tokens and positions.
func judgesFor(t *testing.T, s *testaid.Source, w api.Weights) []*judge {
	t.Helper()
	equal, small := s.Lively(w.Config), w.Config
	clear(equal.Head.Data)
	small.Vocab, small.Len, small.Layers = max(2, small.Vocab-1), 2+s.Below(small.Len), 1
	var out []*judge
	for _, w := range []api.Weights{w, equal, s.Tight(w.Config), s.Lively(small)} {
		out = append(out, judgeOf(t, w))
	}
	return out
}

func newPlay(t *testing.T, s *testaid.Source) *play {
	t.Helper()
	w, v := s.Small()
	m, c := newModel(t, w), s.Serve(w.Config.Len)
	return &play{t: t, under: newEngine(t, m, v, c), plain: newEngine(t, m, v, c), vocab: v, Asker: s.Asker(w.Config), judges: judgesFor(t, s, w)}
}

// startError: what Start is to answer.
func (p *play) startError(a api.Ask, n int) api.Errno {
	live := len(p.plain.Live())
	switch {
	case n < 1:
		p.seen.none++
		return api.ErrArg
	case n > api.MaxLive || live+n > api.MaxLive:
		p.seen.many++
		return api.ErrMany
	case a.New < 1:
		p.seen.refused++
		return api.ErrArg
	}
	if live > 0 {
		p.seen.beside++
	}
	return api.OK
}

// times: a few most of all.
func (p *play) times() int {
	if p.Below(8) == 0 {
		return []int{0, -1, math.MinInt, 16, 17, math.MaxInt}[p.Below(6)]
	}
	return 1 + p.Below(7)
}

func (p *play) start() {
	p.t.Helper()
	a, n, j := p.Ask(), p.times(), p.judges[p.Below(len(p.judges))]
	if p.Below(2) == 0 {
		a.Params.Temp, a.Params.Seed = 2000, -uint64(p.Below(4))
	}
	if p.Below(12) == 0 {
		a.New = -p.Below(2)
	}
	b, e := bestof.Start(p.under, j.m, a, n)
	if want := p.startError(a, n); e != want || (b != nil) != (want == api.OK) {
		p.t.Fatalf("P28.1: Start of %+v, %d times: the error %d, want %d", a, n, e, want)
	}
	if e != api.OK {
		return
	}
	l := &lot{judge: j, ask: a}
	for i := range n {
		l.ids = append(l.ids, submit(p.t, p.plain, of(a, i)))
		p.asks = append(p.asks, of(a, i))
	}
	if a.Params.Seed > of(a, n-1).Params.Seed {
		p.seen.wrapped++
	}
	p.proper, p.batches = append(p.proper, l), append(p.batches, b)
}

// submit: a request of no batch.
func (p *play) submit() {
	p.t.Helper()
	a := p.Ask()
	if len(p.plain.Live()) == api.MaxLive {
		return
	}
	if id := submit(p.t, p.plain, a); id != submit(p.t, p.under, a) {
		p.t.Fatalf("P28.1: the next request is not number %d", id)
	}
	p.asks = append(p.asks, a)
}

// someone: a number, of a live request as a rule.
func (p *play) someone() int {
	if live := p.plain.Live(); len(live) > 0 && p.Below(5) > 0 {
		return live[p.Below(len(live))]
	}
	return p.Below(len(p.asks)+3) - 1
}

func (p *play) step() {
	p.t.Helper()
	var picks []int
	for _, id := range p.plain.Live() {
		if p.Below(5) > 0 {
			picks = append(picks, id)
		}
	}
	want, is := p.plain.Step(picks...), p.under.Step(picks...)
	if !testaid.SameReport(is, want) {
		p.t.Fatalf("P28.1: Step(%v) = %+v, want %+v", picks, is, want)
	}
	p.seen.out += len(is.Out)
}

func (p *play) act() {
	p.t.Helper()
	switch p.Below(12) {
	case 0:
		p.start()
	case 1:
		p.submit()
	case 2:
		if id := p.someone(); p.plain.Cancel(id) != p.under.Cancel(id) {
			p.t.Fatalf("P28.1: Cancel(%d) answers another error", id)
		}
	case 3:
		id, raw := p.someone(), p.Raw(p.Some(4))
		if p.plain.Offer(id, raw) != p.under.Offer(id, raw) {
			p.t.Fatalf("P28.1: Offer(%d) answers another error", id)
		}
	default:
		p.step()
	}
}

// agree: the batches tell what the words say, and the engines are alike.
func (p *play) agree() {
	p.t.Helper()
	for i, l := range p.proper {
		l.agrees("P28.4", p.batches[i], p.plain)
	}
	for id := range len(p.asks) + 2 {
		want, wrong := p.plain.Poll(id)
		if is, e := p.under.Poll(id); e != wrong || !testaid.SameState(is, want) {
			p.t.Fatalf("P28.1: Poll(%d) = %v, %d, want %v, %d", id, is, e, want, wrong)
		}
	}
	all, free, owned, kept := p.under.Room()
	if a, f, o, k := p.plain.Room(); a != all || f != free || o != owned || k != kept {
		p.t.Fatalf("P28.1: room %d %d %d %d, want %d %d %d %d", all, free, owned, kept, a, f, o, k)
	}
}

// count: what a batch tells now.
func (p *play) count(l *lot) {
	list, e := l.best(p.plain)
	switch {
	case e == api.ErrLong:
		p.seen.long++
	case e == api.ErrToken:
		p.seen.foreign++
	case !l.ready(p.plain) && len(list) > 0:
		p.seen.early++
	case len(list) > 0 && len(list) < len(l.ids):
		p.seen.cancelled++
	}
	if refused := l.refusals(p.plain); len(slices.Compact(refused)) > 1 {
		p.seen.unlike++
	}
	if l.judge == p.judges[0] {
		p.seen.own++
	} else {
		p.seen.another++
	}
	p.countAnswers(l, list)
}

func (p *play) countAnswers(l *lot, list []api.Beam) {
	done := l.done(p.plain)
	for i, b := range list {
		switch {
		case i == 0:
		case slices.Equal(list[i-1].Tokens, b.Tokens):
			p.seen.alike++
		case list[i-1].Gap == b.Gap:
			p.seen.near++
		default:
			p.seen.far++
		}
		if !slices.Equal(done[i], b.Tokens) {
			p.seen.moved++
		}
		if b.Over {
			p.seen.over++
		} else {
			p.seen.open++
		}
		if l.ask.Guide != "" {
			p.seen.guided++
		}
	}
}

// finish: everybody comes to an end, and all that were not cancelled were told Ref (W1).
func (p *play) finish() {
	p.t.Helper()
	finish(p.t, p.under)
	finish(p.t, p.plain)
	p.agree()
	for i, a := range p.asks {
		s, _ := p.under.Poll(i + 1)
		if s.Status == api.Cancelled {
			continue
		}
		ref, e := testaid.Ref(p.judges[0].m, p.vocab, a)
		if e != api.OK || !testaid.SameState(s, api.State{Status: api.Done, Tokens: ref}) {
			p.t.Fatalf("W1: request %d of %+v: %v, want %v, %d", i+1, a, s, ref, e)
		}
	}
}

// Drawn scripts of batches and other requests, over drawn models, measures and judges: whatever is told is what the words say (P28.1 to P28.4).
func TestScripts(t *testing.T) {
	s := testaid.Source(2830)
	var seen counts
	for range 120 {
		p := newPlay(t, &s)
		for range 80 {
			p.act()
			p.agree()
			for _, l := range p.proper {
				p.count(l)
			}
		}
		p.finish()
		seen.add(p.seen)
	}
	if seen.least() < 20 {
		t.Errorf("the scripts tell too little: %+v", seen)
	}
}
