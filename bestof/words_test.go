package bestof_test

import (
	"fmt"
	"slices"
	"testing"

	"augur/api"
	"augur/bestof"
	"augur/engine"
	"augur/model"
	"augur/testaid"
	"augur/xform"
)

// The chapter's words, said a second time: gaps out of the logits behind each beginning of a text, and of each answer how many others come first.

// judge: a model that judges, its weights, and the logits that were asked for before, by their texts.
type judge struct {
	*testing.T
	m     *model.Model
	w     api.Weights
	known map[string][]int64
}

func newModel(t *testing.T, w api.Weights) *model.Model {
	t.Helper()
	m, e := model.New(w)
	if e != api.OK {
		t.Fatalf("no model: %d", e)
	}
	return m
}

func judgeOf(t *testing.T, w api.Weights) *judge {
	t.Helper()
	return &judge{T: t, m: newModel(t, w), w: w, known: map[string][]int64{}}
}

// logits: of what comes behind a text.
func (j *judge) logits(text []int) []int64 {
	j.Helper()
	key := fmt.Sprint(text)
	if logits, ok := j.known[key]; ok {
		return logits
	}
	points, e := xform.Full(j.m, text)
	if e != api.OK {
		j.Fatalf("Full(%v) answered the error %d", text, e)
	}
	logits := make([]int64, j.w.Head.Rows)
	for row := range logits {
		for col, x := range points[len(text)-1].Hidden {
			logits[row] += int64(j.w.Head.Data[row*j.w.Head.Cols+col]) * int64(x)
		}
	}
	j.known[key] = logits
	return logits
}

// refuses: what is wrong with a text that has tokens, of which none is below 0.
func (j *judge) refuses(text []int) api.Errno {
	switch {
	case len(text) > j.w.Config.Len:
		return api.ErrLong
	case slices.Max(text) >= j.w.Config.Vocab:
		return api.ErrToken
	}
	return api.OK
}

// beam: an answer that the judge does not refuse.
func (j *judge) beam(prompt, tokens []int) api.Beam {
	j.Helper()
	b := api.Beam{Tokens: slices.Clone(tokens), Over: slices.Contains(tokens, 0)}
	text := slices.Clone(prompt)
	for _, token := range tokens {
		logits := j.logits(text)
		b.Gap += slices.Max(logits) - logits[token]
		text = append(text, token)
	}
	return b
}

// first: does one answer come first, of two that are unlike?
func first(a, b api.Beam) bool {
	if a.Gap != b.Gap {
		return a.Gap < b.Gap
	}
	for place := range a.Tokens {
		if place == len(b.Tokens) {
			return false
		}
		if a.Tokens[place] != b.Tokens[place] {
			return a.Tokens[place] < b.Tokens[place]
		}
	}
	return len(a.Tokens) < len(b.Tokens)
}

// ordered: each answer stands behind as many as come first, and behind those that are alike and of a lower number.
func ordered(list []api.Beam) []api.Beam {
	out := make([]api.Beam, len(list))
	for i, b := range list {
		place := 0
		for k, other := range list {
			if first(other, b) || k < i && !first(b, other) {
				place++
			}
		}
		out[place] = b
	}
	return out
}

// lot: a batch as the words tell it.
type lot struct {
	judge *judge
	ask   api.Ask
	ids   []int
}

// of: the ask of the request number i, from 0 on.
func of(a api.Ask, i int) api.Ask {
	a.Params.Seed += uint64(i)
	return a
}

// done: of those of its requests that are Done by now, what they answered, the lowest number first.
func (l *lot) done(g *engine.Engine) [][]int {
	var list [][]int
	for _, id := range l.ids {
		if s, e := g.Poll(id); e == api.OK && s.Status == api.Done {
			list = append(list, s.Tokens)
		}
	}
	return list
}

// refusals: the errors that the judge has for answers, the lowest number first.
func (l *lot) refusals(g *engine.Engine) []api.Errno {
	var list []api.Errno
	for _, tokens := range l.done(g) {
		if e := l.judge.refuses(slices.Concat(l.ask.Prompt, tokens)); e != api.OK {
			list = append(list, e)
		}
	}
	return list
}

// best: what Best is to answer.
func (l *lot) best(g *engine.Engine) ([]api.Beam, api.Errno) {
	l.judge.Helper()
	if refused := l.refusals(g); len(refused) > 0 {
		return nil, refused[0]
	}
	var list []api.Beam
	for _, tokens := range l.done(g) {
		list = append(list, l.judge.beam(l.ask.Prompt, tokens))
	}
	return ordered(list), api.OK
}

// ready: is none of its requests live?
func (l *lot) ready(g *engine.Engine) bool {
	for _, id := range g.Live() {
		if slices.Contains(l.ids, id) {
			return false
		}
	}
	return true
}

// agrees: a batch tells what the words say, of the requests as an engine tells them.
func (l *lot) agrees(what string, b *bestof.Batch, g *engine.Engine) {
	l.judge.Helper()
	isMadeOf(l.judge.T, b, l.ids...)
	isReady(l.judge.T, b, l.ready(g))
	want, wrong := l.best(g)
	if got, e := b.Best(); e != wrong || !sameBeams(got, want) {
		l.judge.Fatalf("%s: Best of %+v = %v, %d, want %v, %d", what, l.ask, got, e, want, wrong)
	}
}

func sameBeams(a, b []api.Beam) bool {
	return slices.EqualFunc(a, b, func(a, b api.Beam) bool {
		return slices.Equal(a.Tokens, b.Tokens) && a.Gap == b.Gap && a.Over == b.Over
	})
}

// started: Start makes a batch of these.
func started(t *testing.T, g *engine.Engine, m *model.Model, a api.Ask, n int) *bestof.Batch {
	t.Helper()
	b, e := bestof.Start(g, m, a, n)
	if e != api.OK || b == nil {
		t.Fatalf("P28.1: Start of %+v, %d times, answered the error %d", a, n, e)
	}
	return b
}

// refuses: Start answers this error, and no batch.
func refuses(t *testing.T, g *engine.Engine, m *model.Model, a api.Ask, n int, want api.Errno) {
	t.Helper()
	if b, e := bestof.Start(g, m, a, n); b != nil || e != want {
		t.Errorf("P28.1: Start of %d tokens, %d new, %d times: the error %d, want %d", len(a.Prompt), a.New, n, e, want)
	}
}

// isMadeOf: these are the numbers of its requests.
func isMadeOf(t *testing.T, b *bestof.Batch, want ...int) {
	t.Helper()
	if ids := b.Ids(); !slices.Equal(ids, want) {
		t.Fatalf("P28.2: Ids = %v, want %v", ids, want)
	}
}

func isReady(t *testing.T, b *bestof.Batch, want bool) {
	t.Helper()
	if is := b.Ready(); is != want {
		t.Fatalf("P28.3: Ready = %v", is)
	}
}

// tells: Best answers just these.
func tells(t *testing.T, b *bestof.Batch, want ...api.Beam) {
	t.Helper()
	if got, e := b.Best(); e != api.OK || !sameBeams(got, want) {
		t.Fatalf("P28.4: Best = %v, %d, want %v", got, e, want)
	}
}

// tellsNot: Best answers this error, and nothing beside it.
func tellsNot(t *testing.T, b *bestof.Batch, want api.Errno) {
	t.Helper()
	if got, e := b.Best(); e != want || len(got) != 0 {
		t.Fatalf("P28.4: Best = %v, %d, want the error %d", got, e, want)
	}
}

func newEngine(t *testing.T, m *model.Model, v api.Vocab, c api.Serve) *engine.Engine {
	t.Helper()
	g, e := engine.New(m, v, c)
	if e != api.OK {
		t.Fatalf("no engine of %+v: %d", c, e)
	}
	return g
}

// ring: DOC.md's model and its engine.
func ring(t *testing.T) (*model.Model, *engine.Engine) {
	t.Helper()
	m := newModel(t, testaid.Ring())
	return m, newEngine(t, m, testaid.RingVocab(), testaid.RingServe)
}

// level: the ring's measures, but all tokens are liked alike: which ones are answered hangs on the seed alone.
func level() api.Weights {
	w := testaid.Ring()
	clear(w.Head.Data)
	return w
}

// greedily: a request for so many tokens behind a prompt.
func greedily(n int, prompt ...int) api.Ask {
	return api.Ask{Prompt: prompt, New: n, Params: testaid.Greedy}
}

// byChance: one whose tokens are drawn.
func byChance(seed uint64, n int, prompt ...int) api.Ask {
	a := greedily(n, prompt...)
	a.Params.Temp, a.Params.Seed = 256, seed
	return a
}

// finish: all live requests come to an end.
func finish(t *testing.T, g *engine.Engine) {
	t.Helper()
	for n := 0; len(g.Live()) > 0; n++ {
		if n > 5000 {
			t.Fatalf("W5: %v are live", g.Live())
		}
		g.Step(g.Live()...)
	}
}
