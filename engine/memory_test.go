package engine_test

import (
	"slices"
	"testing"

	"augur/api"
	"augur/engine"
	"augur/testaid"
)

var rawMark = api.RawNode{Parent: 77, Token: 78}

// stays: the call leaves a list and the room behind it as they are.
func stays[T comparable](t *testing.T, list []T, call func()) {
	t.Helper()
	same := testaid.Guard(list)
	call()
	if !same() {
		t.Fatalf("P20.16: what was handed in was changed, or the room behind it: %v", list[:cap(list)])
	}
}

// spoiler: a play in which each list that was handed in or answered is written over behind the call.
type spoiler struct{ *play }

func (p spoiler) submit() {
	p.t.Helper()
	a := p.Ask()
	if len(p.b.lives()) == api.MaxLive {
		return
	}
	want := p.b.submit(a)
	a.Prompt = testaid.Roomy(a.Prompt, 1)
	stays(p.t, a.Prompt, func() { asks(p.t, p.g, want, a) })
	testaid.Overwrite(a.Prompt, 1)
}

func (p spoiler) offer(id int) {
	p.t.Helper()
	r := p.b.live(id)
	r.offer = p.raw(r)
	raw := testaid.Roomy(r.offer, rawMark)
	stays(p.t, raw, func() { p.g.Offer(id, raw) })
	testaid.Overwrite(raw, rawMark)
}

func (p spoiler) step() {
	p.t.Helper()
	picks := testaid.Roomy(p.picks(), 1)
	want := p.b.step(picks...)
	var is api.Report
	stays(p.t, picks, func() { is = p.g.Step(picks...) })
	if !testaid.SameReport(is, want) {
		p.t.Fatalf("P20.15: picked %v: %+v, want %+v", picks, is, want)
	}
	testaid.Overwrite(picks, 1)
	testaid.SpoilReport(is)
}

// spoilAnswers: of all calls that tell.
func (p spoiler) spoilAnswers() {
	testaid.Spoil(p.g.Live(), 99)
	for i := range p.b.rows {
		state, _ := p.g.Poll(i + 1)
		testaid.Spoil(state.Tokens, 99)
		blocks, _ := p.g.Blocks(i + 1)
		testaid.Spoil(blocks, 99)
		for layer := range p.b.m.Config().Layers {
			for pos := range p.b.rows[i].cached {
				k, v, _ := p.g.Cached(i+1, layer, pos)
				testaid.Spoil(k, 99)
				testaid.Spoil(v, 99)
			}
		}
	}
}

// P20.16: whatever is written over what was handed in and answered, everything goes on as the words say.
func TestNothingShared(t *testing.T) {
	s := testaid.Source(16)
	for range 60 {
		p := spoiler{newPlay(t, &s)}
		for range 60 {
			if s.Below(4) == 0 {
				p.submit()
			}
			for _, id := range p.b.lives() {
				if p.b.live(id).ask.Proposer == api.PRaw {
					p.offer(id)
				}
			}
			p.step()
			p.spoilAnswers()
			p.b.agree(t, p.g)
		}
	}
}

// P20.16: the vocabulary that was handed in is neither changed nor kept.
func TestVocabNotKept(t *testing.T) {
	v := api.Vocab{Base: testaid.Roomy([]byte("a"), 'x'), Pairs: testaid.Roomy([][2]int{{1, 1}}, [2]int{7, 7})}
	m := newModel(t, testaid.Tiny())
	var g *engine.Engine
	stays(t, v.Base, func() {
		stays(t, v.Pairs, func() { g = newEngine(t, m, v, tinyServe) })
	})
	testaid.Overwrite(v.Base, 'x')
	testaid.Overwrite(v.Pairs, [2]int{7, 7})
	for expr, want := range map[string]api.Errno{"aaa": api.OK, "x": api.ErrGuide, "b": api.ErrGuide} {
		if _, e := g.Submit(api.Ask{Prompt: []int{1}, New: 1, Params: greedy, Guide: expr}); e != want {
			t.Errorf("P20.16: %q: %d, want %d", expr, e, want)
		}
	}
}

// R5: the tokens of one answer are no other's.
func TestAnswersApart(t *testing.T) {
	g := ringEngine(t)
	asks(t, g, 1, ask(api.PRaw, 6, 1))
	asks(t, g, 2, ask(api.PRaw, 6, 1))
	offers(t, g, 1, -1, 2, 0, 3)
	offers(t, g, 2, -1, 2, 0, 3)
	r := g.Step(1, 2)
	one, _ := g.Poll(1)
	again, _ := g.Poll(1)
	testaid.Spoil(r.Did[0].Tokens, 99)
	testaid.Spoil(one.Tokens, 98)
	for _, tokens := range [][]int{r.Did[1].Tokens, again.Tokens} {
		if !slices.Equal(tokens, []int{2, 3, 1}) {
			t.Errorf("R5: %v", tokens)
		}
	}
	polls(t, g, 1, api.Running, 2, 3, 1)
	g.Cancel(1)
	over, _ := g.Poll(1)
	testaid.Spoil(over.Tokens, 97)
	polls(t, g, 1, api.Cancelled, 2, 3, 1)
}
