package bestof_test

import (
	"slices"
	"testing"

	"augur/api"
	"augur/bestof"
	"augur/engine"
	"augur/testaid"
)

// levelEngine: one over the level model, in which any token may come, with room for all.
func levelEngine(t *testing.T) *engine.Engine {
	t.Helper()
	return newEngine(t, newModel(t, level()), testaid.RingVocab(), api.Serve{Blocks: 64, Block: 4, Budget: 64, Chunk: 16, Tree: 8})
}

// lotOf: the words' batch beside a batch of these.
func lotOf(t *testing.T, g *engine.Engine, j *judge, a api.Ask, n int) (*bestof.Batch, *lot) {
	t.Helper()
	b := started(t, g, j.m, a, n)
	return b, &lot{judge: j, ask: a, ids: b.Ids()}
}

// The gap is that of the answer's tokens alone: the prompt's own tokens, whatever gaps they have, are not counted; the first behind it is.
func TestGaps(t *testing.T) {
	s := testaid.Source(2801)
	j := judgeOf(t, testaid.Ring())
	for _, prompt := range testaid.Lists(4, 0, 1, 3)[1:] {
		for most := 1; most <= 3; most++ {
			g := levelEngine(t)
			b, l := lotOf(t, g, j, byChance(s.Next(), most, prompt...), 8)
			finish(t, g)
			l.agrees("P28.4", b, g)
		}
	}
	_, g := ring(t)
	b := started(t, g, newModel(t, testaid.Ring()), greedily(2, 3, 3, 2, 0, 1), 1)
	finish(t, g)
	tells(t, b, likeliest(2, 3))
	// The other judge likes 0 behind 1, and 1 behind 2.
	other := testaid.Ring()
	slices.Reverse(other.Head.Data)
	_, g = ring(t)
	b = started(t, g, newModel(t, other), greedily(2, 1), 1)
	finish(t, g)
	tells(t, b, api.Beam{Tokens: []int{2, 3}, Gap: 25400})
}

// A prompt up to the last place but one, and answers up to the last place: of the engine's model and of the judge.
func TestLengths(t *testing.T) {
	s := testaid.Source(2802)
	for long := 1; long < 16; long++ {
		for shorter := range 3 {
			w := testaid.Ring()
			w.Config.Len = max(1, 16-shorter)
			j := judgeOf(t, w)
			prompt := make([]int, long)
			for i := range prompt {
				prompt[i] = s.Below(4)
			}
			g := levelEngine(t)
			b, l := lotOf(t, g, j, byChance(s.Next(), 16-long, prompt...), 6)
			finish(t, g)
			l.agrees("P28.4", b, g)
		}
	}
}

// The greatest model, and a judge to whom each token but the last lies as far below the best as can be.
func TestGreatest(t *testing.T) {
	s := testaid.Source(2803)
	c := api.Config{Vocab: 64, Width: 32, Heads: 4, KV: 4, Layers: 4, Hidden: 64, Len: 64}
	v := testaid.Vocab(testaid.Letters(48))
	for first := 1; len(v.Pairs) < 15; first++ {
		v.Pairs = append(v.Pairs, [2]int{first, first + 1})
	}
	m, w := newModel(t, s.Lively(c)), s.Weights(c)
	testaid.Overwrite(w.Embed.Data, 127)
	testaid.Overwrite(w.Final, 127)
	testaid.Overwrite(w.Head.Data[:63*32:63*32], -127)
	testaid.Overwrite(w.Head.Data[63*32:], 127)
	for _, l := range w.Layers {
		clear(l.O.Data)
		clear(l.D.Data)
	}
	for _, long := range []int{1, 60} {
		g := newEngine(t, m, v, api.Serve{Blocks: 256, Block: 4, Budget: 256, Chunk: 16, Tree: 32})
		b, l := lotOf(t, g, judgeOf(t, w), byChance(s.Next(), 64-long, make([]int, long)...), 4)
		finish(t, g)
		l.agrees("P28.4", b, g)
		list, _ := b.Best()
		if last := list[3]; last.Gap < 1000000*int64(len(last.Tokens)-1) {
			t.Errorf("P28.4: the greatest gap is that of %v", last)
		}
	}
}

// The error is that of the lowest number whose answer is refused: ErrLong and ErrToken in both orders.
func TestFirstRefusal(t *testing.T) {
	w := testaid.Tiny()
	w.Config.Len = 5
	j := judgeOf(t, w)
	seen := map[[2]api.Errno]int{}
	for seed := range uint64(200) {
		g := levelEngine(t)
		b, l := lotOf(t, g, j, byChance(seed*10, 6, 1, 2), 4)
		finish(t, g)
		l.agrees("P28.4", b, g)
		refused := l.refusals(g)
		if len(refused) == 0 {
			seen[[2]api.Errno{}]++
			continue
		}
		seen[[2]api.Errno{refused[0], refused[len(refused)-1]}]++
	}
	for _, first := range []api.Errno{api.ErrLong, api.ErrToken} {
		for _, last := range []api.Errno{api.ErrLong, api.ErrToken} {
			if n := seen[[2]api.Errno{first, last}]; n < 5 {
				t.Errorf("the errors %d and %d came about %d times", first, last, n)
			}
		}
	}
	if seen[[2]api.Errno{}] == 0 {
		t.Error("all were refused")
	}
}

// Answers of requests that are live, or were cancelled, are not judged: they cannot be refused.
func TestOnlyDoneAreJudged(t *testing.T) {
	_, g := ring(t)
	short := testaid.Ring()
	short.Config.Len = 3
	b := started(t, g, newModel(t, short), greedily(3, 1), 3)
	for range 2 {
		g.Step(1, 2, 3)
	}
	// 1, 2 3 is as long as the judge goes; with one more each is refused.
	cancel(t, g, 1)
	tells(t, b)
	g.Step(2)
	tellsNot(t, b, api.ErrLong)
	cancel(t, g, 3)
	tellsNot(t, b, api.ErrLong)
	isReady(t, b, true)
	b = started(t, g, newModel(t, short), greedily(3, 1), 3)
	for range 2 {
		g.Step(b.Ids()...)
	}
	for _, id := range b.Ids() {
		isReady(t, b, false)
		cancel(t, g, id)
		tells(t, b)
	}
	isReady(t, b, true)
}

// A prompt that the judge refuses is refused with the first answer, not ahead of it, and not by Start.
func TestRefusedPrompt(t *testing.T) {
	for want, prompt := range map[api.Errno][]int{api.ErrToken: {3, 1}, api.ErrLong: {1, 1, 1, 1, 1, 1, 1, 1, 1, 1, 1, 1, 1}} {
		_, g := ring(t)
		b := started(t, g, newModel(t, testaid.Tiny()), greedily(1, prompt...), 2)
		isReady(t, b, false)
		tells(t, b)
		for len(g.Live()) == 2 {
			tells(t, b)
			g.Step(1)
		}
		isReady(t, b, false)
		tellsNot(t, b, want)
		cancel(t, g, 2)
		isReady(t, b, true)
		tellsNot(t, b, want)
	}
}

// Of alike gaps the one whose tokens come first is first, whatever their numbers.
func TestAlikeGaps(t *testing.T) {
	j := judgeOf(t, level())
	unsorted := 0
	for seed := range uint64(40) {
		g := levelEngine(t)
		b, l := lotOf(t, g, j, byChance(100*seed, 1+int(seed%5), 2), 16)
		finish(t, g)
		l.agrees("P28.4", b, g)
		list, _ := b.Best()
		for i, x := range list {
			if x.Gap != 0 || i > 0 && slices.Compare(list[i-1].Tokens, x.Tokens) > 0 {
				t.Fatalf("P28.4: number %d of %v", i, list)
			}
		}
		if !slices.IsSortedFunc(l.done(g), slices.Compare) {
			unsorted++
		}
	}
	if unsorted < 30 {
		t.Errorf("only %d times the numbers had another order", unsorted)
	}
}

// Over is whether the last token is End: where it is the last one that might come too, and not where End stands in the prompt.
func TestOver(t *testing.T) {
	over, open, last := 0, 0, 0
	for seed := range uint64(60) {
		g := levelEngine(t)
		b := started(t, g, newModel(t, testaid.Ring()), byChance(20*seed, 3, 0, 1, 0), 10)
		finish(t, g)
		list, e := b.Best()
		if e != api.OK || len(list) != 10 {
			t.Fatalf("P28.4: %d answers, %d", len(list), e)
		}
		for _, x := range list {
			if x.Over != (x.Tokens[len(x.Tokens)-1] == 0) {
				t.Fatalf("P28.4: %v", x)
			}
			switch {
			case !x.Over:
				open++
			case len(x.Tokens) == 3:
				last++
			default:
				over++
			}
		}
	}
	if over < 50 || open < 50 || last < 50 {
		t.Errorf("%d are over, %d are not, %d with the last token", over, open, last)
	}
}

// Ready tells of the batch's own requests alone, and of all of them: whichever is the last one.
func TestReady(t *testing.T) {
	m, g := ring(t)
	for last := range 5 {
		submit(t, g, greedily(9, 1))
		b := started(t, g, m, greedily(1, 1), 5)
		submit(t, g, greedily(9, 1))
		for i, id := range b.Ids() {
			isReady(t, b, false)
			switch {
			case i == last:
			case i%2 == 0:
				cancel(t, g, id)
			default:
				g.Step(id)
			}
		}
		isReady(t, b, false)
		g.Step(b.Ids()[last])
		isReady(t, b, true)
		for _, id := range g.Live() {
			cancel(t, g, id)
		}
		isReady(t, b, true)
	}
}
