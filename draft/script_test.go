package draft_test

import (
	"slices"
	"testing"

	"augur/api"
	"augur/draft"
	"augur/engine"
	"augur/model"
	"augur/testaid"
)

// play: a drafter over an engine, and beside it another engine, of which all is done by hand that the words say.
type play struct {
	t       *testing.T
	d       *draft.Drafter
	under   *engine.Engine // the drafter's
	plain   *engine.Engine
	guesser *model.Model
	weights api.Weights // the guesser's
	widths  []int
	*testaid.Asker
	main  *model.Model
	vocab api.Vocab
	own   map[int]api.Ask // the drafter's requests, by their numbers
	asked int
	seen  counts
}

// counts: how often what a test wants to see came about.
type counts struct {
	right, wrong, unguessed, foreign, cut, waited, out, others, ended, guided int
}

func (c *counts) add(o counts) {
	c.right += o.right
	c.wrong += o.wrong
	c.unguessed += o.unguessed
	c.foreign += o.foreign
	c.cut += o.cut
	c.waited += o.waited
	c.out += o.out
	c.others += o.others
	c.ended += o.ended
	c.guided += o.guided
}

func (c counts) least() int {
	return min(c.right, c.wrong, c.unguessed, c.foreign, c.cut, c.waited, c.out, c.others, c.ended, c.guided)
}

// guesserFor: weights that guess for a model: the same ones, or others with fewer or more tokens and positions.
func guesserFor(s *testaid.Source, w api.Weights) api.Weights {
	c := w.Config
	switch s.Below(5) {
	case 0, 1:
		return w
	case 2:
		c.Vocab = max(2, c.Vocab-1)
	case 3:
		c.Vocab += 1 + s.Below(3)
	}
	c.Layers, c.Len = 1, 1+s.Below(c.Len+4)
	return s.Lively(c)
}

func newPlay(t *testing.T, s *testaid.Source) *play {
	t.Helper()
	w, v := s.Small()
	m, c := made(t, w), s.Serve(w.Config.Len)
	p := &play{t: t, under: newEngine(t, m, v, c), plain: newEngine(t, m, v, c), Asker: s.Asker(w.Config), main: m, vocab: v, own: map[int]api.Ask{}}
	p.weights = guesserFor(s, w)
	p.guesser, p.widths = made(t, p.weights), []int{1, 1, 1, 1, 1}[:1+s.Below(5)]
	if s.Below(2) == 0 {
		p.widths = drawnWidths(s, p.weights.Config, s.Below(5))
	}
	for range s.Below(3) {
		p.before()
	}
	p.d = newDrafter(t, p.under, p.guesser, p.widths...)
	return p
}

// before: a request that the engine has before there is a drafter, perhaps with an offer.
func (p *play) before() {
	p.t.Helper()
	a := p.Ask()
	raw := p.Raw(p.Some(4))
	for _, g := range []*engine.Engine{p.under, p.plain} {
		id, e := g.Submit(a)
		if e != api.OK {
			p.t.Fatalf("engine.Submit answered the error %d", e)
		}
		g.Offer(id, raw)
	}
	p.asked++
}

func (p *play) submit() {
	p.t.Helper()
	a := p.Ask()
	a.Proposer = p.Below(9) - 2
	if p.Below(8) == 0 {
		a.New = []int{0, -1, p.Long}[p.Below(3)]
	}
	raw := a
	raw.Proposer = api.PRaw
	want, wrong := p.plain.Submit(raw)
	if id, e := p.d.Submit(a); id != want || e != wrong {
		p.t.Fatalf("P25.3: Submit(%+v) = %d, %d, want %d, %d", a, id, e, want, wrong)
	}
	if wrong == api.OK {
		p.own[want] = a
		p.asked++
	}
}

// offer: P25.4's, by hand, for one that is picked.
func (p *play) offer(id int) {
	p.t.Helper()
	a, own := p.own[id]
	state, _ := p.plain.Poll(id)
	if !own || state.Status == api.Done {
		return
	}
	known := slices.Concat(a.Prompt, state.Tokens)
	if wordsError(p.weights.Config, known, p.widths) != api.OK {
		p.seen.unguessed++
		return
	}
	raw := wordsTree(p.t, p.guesser, p.weights, known, p.widths)
	if e := p.plain.Offer(id, raw); e != api.OK {
		p.t.Fatalf("Offer answered the error %d", e)
	}
	if len(known) > p.weights.Config.Len {
		p.seen.cut++
	}
	if slices.ContainsFunc(raw, func(n api.RawNode) bool { return n.Token >= p.Vocab }) {
		p.seen.foreign++
	}
}

func (p *play) step(picks ...int) {
	p.t.Helper()
	for id := 1; id <= p.asked; id++ {
		if slices.Contains(picks, id) {
			p.offer(id)
		}
	}
	want, is := p.plain.Step(picks...), p.d.Step(picks...)
	if !testaid.SameReport(is, want) {
		p.t.Fatalf("P25.4: Step(%v) = %+v, want %+v", picks, is, want)
	}
	p.count(is)
}

func (p *play) count(r api.Report) {
	p.seen.out += len(r.Out)
	for _, did := range r.Did {
		a, own := p.own[did.Id]
		switch {
		case !own:
			p.seen.others++
		case did.Nodes == 0:
			p.seen.waited++
		default:
			p.seen.right += did.Accepted
			p.seen.wrong += did.Nodes - 1 - did.Accepted
			p.seen.ended += len(did.Tokens) - len(slices.DeleteFunc(slices.Clone(did.Tokens), func(t int) bool { return t == api.End }))
			if a.Guide != "" {
				p.seen.guided++
			}
		}
	}
}

// agree: both tell the same of all requests, and of the room.
func (p *play) agree() {
	p.t.Helper()
	for id := range p.asked + 3 {
		want, wrong := p.plain.Poll(id)
		if is, e := p.d.Poll(id); e != wrong || !testaid.SameState(is, want) {
			p.t.Fatalf("P25.5: Poll(%d) = %v, %d, want %v, %d", id, is, e, want, wrong)
		}
	}
	all, free, owned, kept := p.under.Room()
	if a, f, o, k := p.plain.Room(); a != all || f != free || o != owned || k != kept {
		p.t.Fatalf("P25.4: room %d %d %d %d, want %d %d %d %d", all, free, owned, kept, a, f, o, k)
	}
}

// picks: some of the live ones, in any order, with numbers twice and numbers of nobody.
func (p *play) picks() []int {
	var out []int
	for _, id := range p.under.Live() {
		if p.Below(4) > 0 {
			out = append(out, id)
		}
	}
	if p.Below(4) == 0 {
		out = append(out, p.Below(p.asked+2), p.Below(p.asked+2), -1, 1<<62)
	}
	for i := range out {
		j := p.Below(len(out))
		out[i], out[j] = out[j], out[i]
	}
	return out
}

// finish: everybody comes to an end, and all were told Ref (W1).
func (p *play) finish() {
	p.t.Helper()
	for n := 0; len(p.under.Live()) > 0; n++ {
		if n > 5000 {
			p.t.Fatalf("W5: %v are live", p.under.Live())
		}
		p.d.Step(p.under.Live()...)
	}
	for id, a := range p.own {
		ref, e := testaid.Ref(p.main, p.vocab, a)
		if e != api.OK {
			p.t.Fatalf("Ref answered the error %d", e)
		}
		polls(p.t, p.d, id, api.Done, ref...)
	}
}

// Drawn scripts of all calls, over drawn models, measures, guessing models and widths: whatever is told is what the words say (P25.2 to P25.5), and all are told Ref (W1).
func TestScripts(t *testing.T) {
	s := testaid.Source(2530)
	var seen counts
	for range 150 {
		p := newPlay(t, &s)
		for range 40 {
			if s.Below(5) == 0 {
				p.submit()
			} else {
				p.step(p.picks()...)
			}
			p.agree()
		}
		p.finish()
		seen.add(p.seen)
	}
	if seen.least() < 50 {
		t.Errorf("the scripts tell too little: %+v", seen)
	}
}
