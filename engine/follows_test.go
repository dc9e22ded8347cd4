package engine_test

import (
	"slices"
	"testing"

	"augur/api"
	"augur/bpe"
	"augur/engine"
	"augur/gauge"
	"augur/regex"
	"augur/testaid"
)

// windows: for each of so many steps who is picked, each of the live ones at least once.
func (p *play) windows(steps int) [][]int {
	picks := make([][]int, steps)
	for _, id := range p.b.lives() {
		for range 1 + p.s.Below(2) {
			i := p.s.Below(steps)
			picks[i] = append(picks[i], id)
		}
	}
	return picks
}

// bound: W5's number of steps, behind windows of one step.
func (p *play) bound() int {
	sum := 0
	for _, id := range p.b.lives() {
		a := p.b.live(id).ask
		sum += (len(a.Prompt)+a.New+p.b.c.Chunk-1)/p.b.c.Chunk + a.New
	}
	return sum
}

// goesOn: one step of the end; the oldest live request keeps its blocks.
func (p *play) goesOn(picks []int) {
	p.t.Helper()
	oldest := slices.Min(append(p.b.lives(), 1<<62))
	r := p.g.Step(picks...)
	if slices.Contains(r.Out, oldest) {
		p.t.Fatalf("W5: the oldest, %d, is out: %+v", oldest, r)
	}
	for _, d := range r.Did {
		row := p.b.rows[d.Id-1]
		if row.told += len(d.Tokens); row.told == len(row.ref) {
			row.over = api.Done
		}
	}
}

// W5: everybody comes to an end, within its bound; and then W1: to Ref; and nothing leaks.
func TestEverybodyEnds(t *testing.T) {
	s := testaid.Source(5)
	for range 120 {
		p := newPlay(t, &s)
		for range 30 {
			p.act()
		}
		window := 1 + s.Below(4)
		most := window * p.bound()
		n := 0
		for ; n < most && len(p.b.lives()) > 0; n += window {
			for _, picks := range p.windows(window) {
				p.goesOn(picks)
			}
		}
		if live := p.g.Live(); len(live) != 0 {
			t.Fatalf("W5: behind %d of %d steps %v are live", n, most, live)
		}
		for i, r := range p.b.rows {
			if state, _ := p.g.Poll(i + 1); r.over == api.Done && !testaid.SameState(state, api.State{Status: api.Done, Tokens: r.ref}) {
				t.Fatalf("W1: request %d: %v, want %v", i+1, state, r.ref)
			}
		}
		if all, free, owned, kept := p.g.Room(); owned != 0 || free+kept != all {
			t.Fatalf("W3: %d blocks, %d free, %d owned, %d kept", all, free, owned, kept)
		}
	}
}

// W4, in brackets: alone, with the next tokens of Ref offered as a chain in every step, as many steps as the gauge's sizes take to come to Ref.
func TestGuessingPays(t *testing.T) {
	m := newModel(t, testaid.Ring())
	for size := 1; size <= 32; size++ {
		for _, budget := range []int{1, 2, 5, 64} {
			c := api.Serve{Blocks: 64, Block: 1, Budget: budget, Chunk: 1, Tree: size}
			g := newEngine(t, m, ringVocab, c)
			a := api.Ask{Prompt: []int{1}, New: 15, Params: greedy, Proposer: api.PRaw}
			ref := reference(t, m, ringVocab, a)
			asks(t, g, 1, a)
			measure, _ := gauge.New(size)
			for told := 0; told < len(ref); {
				offers(t, g, 1, chain(ref[told:])...)
				n := min(measure.Size, budget, len(ref)-told)
				steps(t, g, api.Did{Id: 1, Nodes: n, Accepted: n - 1, Tokens: ref[told : told+n]})
				measure, _ = gauge.Next(measure, n, n-1)
				told += n
			}
			polls(t, g, 1, api.Done, ref...)
		}
	}
}

// chain: parents and tokens of these tokens, each behind the other.
func chain(tokens []int) []int {
	var out []int
	for i, token := range tokens {
		out = append(out, i-1, token)
	}
	return out
}

// W6: over another engine, beside others, with other proposers, picks and offers, the tokens of one request are first parts of one another.
func TestNobodyIsSeen(t *testing.T) {
	s := testaid.Source(6)
	for range 60 {
		p := newPlay(t, &s)
		q := &play{t: t, s: &s, Asker: p.Asker}
		c := s.Serve(p.b.m.Config().Len)
		q.b, q.g = newBook(t, p.b.m, p.b.v, c), newEngine(t, p.b.m, p.b.v, c)
		pairs := map[int]int{}
		for range 6 {
			a := p.Ask()
			first := p.b.submit(a)
			asks(t, p.g, first, a)
			for range s.Below(2) {
				q.submit()
			}
			a.Proposer = s.Below(5)
			pairs[first] = q.b.submit(a)
			asks(t, q.g, pairs[first], a)
		}
		for range 40 {
			p.act()
			q.act()
			for one, other := range pairs {
				x, _ := p.g.Poll(one)
				y, _ := q.g.Poll(other)
				n := min(len(x.Tokens), len(y.Tokens))
				if !slices.Equal(x.Tokens[:n], y.Tokens[:n]) {
					t.Fatalf("W6: %v and %v", x, y)
				}
			}
		}
	}
}

// W7: the bytes of a guided request are the beginning of a word at all times, and a word behind End.
func TestGuided(t *testing.T) {
	s := testaid.Source(7)
	words, beginnings := 0, 0
	for range 60 {
		p := newPlay(t, &s)
		p.Guides = []string{"(ab)*", "a?b?a?b?", "(aa|bb)+", "b(a|b)*a", "[ab][ab]?b+"}
		for range 60 {
			p.act()
			for i, r := range p.b.rows {
				if r.ask.Guide == "" {
					continue
				}
				state, _ := p.g.Poll(i + 1)
				text, _ := bpe.Decode(p.b.v, state.Tokens...)
				ends := len(state.Tokens) > 0 && state.Tokens[len(state.Tokens)-1] == api.End
				if !spells(t, r.ask.Guide, text, ends) {
					t.Fatalf("W7: %q is told %q (%v)", r.ask.Guide, text, state)
				}
				if ends {
					words++
				} else if len(text) > 0 {
					beginnings++
				}
			}
		}
	}
	if words < 100 || beginnings < 100 {
		t.Errorf("too little was told: %d words, %d beginnings", words, beginnings)
	}
}

// spells: is the text the beginning of a word of the expression, or a word, if it ends?
func spells(t *testing.T, expr string, text []byte, ends bool) bool {
	t.Helper()
	d, e, _ := regex.Compile(expr)
	if e != api.OK {
		t.Fatalf("no expression: %q", expr)
	}
	if ends {
		return d.Match(text)
	}
	state := 0
	for _, b := range text {
		if state, _ = d.Next(state, b); state < 0 {
			return false
		}
	}
	return true
}

// common: how many first tokens two texts have in common.
func common(a, b []int) int {
	n := 0
	for n < len(a) && n < len(b) && a[n] == b[n] {
		n++
	}
	return n
}

// W11: who comes later finds the whole blocks that its prompt has in common with one that was filled alone, and fills only what is behind them.
func TestBeginningsKeptOnce(t *testing.T) {
	s := testaid.Source(11)
	found := 0
	for range 80 {
		m, v := someModel(t, &s)
		long := m.Config().Len
		c := api.Serve{Blocks: 256, Block: 1 + s.Below(4), Budget: 64, Chunk: 64, Tree: 4}
		g := newEngine(t, m, v, c)
		p := &testaid.Asker{Source: &s, Long: long, Vocab: m.Config().Vocab}
		p.Prompts = [][]int{p.Some(long - 1), p.Some(long - 1)}
		var before [][]int
		for id := 1; id <= 8; id++ {
			a := p.Ask()
			cached := 0
			for _, other := range before {
				n := min(common(a.Prompt, other), len(other)-1, len(a.Prompt)-1)
				cached = max(cached, n/c.Block*c.Block)
			}
			asks(t, g, id, a)
			_, _, owned, kept := g.Room()
			r := g.Step(id)
			if len(r.Did) != 1 || r.Did[0].Prefill != len(a.Prompt)-1-cached {
				t.Fatalf("W11: %v behind %v, blocks of %d: %+v, want %d cached", a.Prompt, before, c.Block, r, cached)
			}
			// What is filled has as many blocks more as it needs, less those that it found.
			_, _, owned2, kept2 := g.Room()
			if r.Did[0].Prefill > 0 && owned2+kept2-owned-kept != (len(a.Prompt)-1+c.Block-1)/c.Block-cached/c.Block {
				t.Fatalf("W11: from %d and %d blocks to %d and %d", owned, kept, owned2, kept2)
			}
			found += cached
			if s.Below(2) == 0 {
				g.Cancel(id)
			}
			before = append(before, a.Prompt)
		}
	}
	if found < 500 {
		t.Errorf("only %d tokens were found", found)
	}
}

// What follows: behind a step Cached is below Known; who decoded in it, and is not Done, lacks the root alone.
func TestCachedBelowKnown(t *testing.T) {
	s := testaid.Source(9)
	for range 40 {
		p := newPlay(t, &s)
		for range 6 {
			p.submit()
		}
		for range 40 {
			r := p.g.Step(p.g.Live()...)
			for _, id := range p.g.Live() {
				n, _ := p.g.Filled(id)
				state, _ := p.g.Poll(id)
				known := len(p.b.rows[id-1].ask.Prompt) + len(state.Tokens)
				at := slices.IndexFunc(r.Did, func(d api.Did) bool { return d.Id == id })
				if n >= known || at >= 0 && r.Did[at].Nodes > 0 && n != known-1 {
					t.Fatalf("request %d: %d of %d tokens are cached, behind %+v", id, n, known, r)
				}
			}
		}
	}
}

// R6: two engines over one model know nothing of one another.
func TestTwoEngines(t *testing.T) {
	m := newModel(t, testaid.Ring())
	run := func(beside *engine.Engine) []api.Report {
		g := newEngine(t, m, ringVocab, ringServe)
		var out []api.Report
		for id := 1; id <= 3; id++ {
			asks(t, g, id, ask(api.PBoth, 5, round(6)...))
			for range 4 {
				out = append(out, g.Step(1, 2, 3))
				beside.Submit(ask(api.PGram, 4, round(9)...))
				beside.Step(1, 2, 3, 4)
			}
		}
		return out
	}
	if !slices.EqualFunc(run(nil), run(ringEngine(t)), testaid.SameReport) {
		t.Error("R6: beside another engine another answer")
	}
}
