package bestof_test

import (
	"testing"

	"augur/api"
	"augur/engine"
	"augur/testaid"
)

// likeliest: an answer without a gap that is not over.
func likeliest(tokens ...int) api.Beam { return api.Beam{Tokens: tokens} }

// The chapter's examples.
func TestTwoAlike(t *testing.T) {
	m, g := ring(t)
	b := started(t, g, m, greedily(3, 1), 2)
	isMadeOf(t, b, 1, 2)
	for range 3 {
		isReady(t, b, false)
		tells(t, b)
		g.Step(1, 2)
	}
	isReady(t, b, true)
	tells(t, b, likeliest(2, 3, 1), likeliest(2, 3, 1))
}

func TestRefusedExamples(t *testing.T) {
	m, g := ring(t)
	untouched := func(live int) {
		t.Helper()
		if n := len(g.Live()); n != live {
			t.Fatalf("P28.1: %d are live, want %d", n, live)
		}
	}
	refuses(t, g, m, greedily(3), 2, api.ErrEmpty)
	refuses(t, g, m, greedily(3, 1), 0, api.ErrArg)
	refuses(t, g, m, greedily(3, 1), 17, api.ErrMany)
	untouched(0)
	submit(t, g, greedily(3, 1))
	submit(t, g, greedily(3, 1))
	refuses(t, g, m, greedily(3, 1), 15, api.ErrMany)
	untouched(2)
	isMadeOf(t, started(t, g, m, greedily(3, 1), 1), 3)
}

func TestCancelledExample(t *testing.T) {
	m, g := ring(t)
	b := started(t, g, m, greedily(3, 1), 2)
	cancel(t, g, 1)
	isReady(t, b, false)
	for range 3 {
		tells(t, b)
		g.Step(2)
	}
	isReady(t, b, true)
	tells(t, b, likeliest(2, 3, 1))
}

func TestShortJudgeExample(t *testing.T) {
	_, g := ring(t)
	short := testaid.Ring()
	short.Config.Len = 2
	b := started(t, g, newModel(t, short), greedily(3, 1), 1)
	tells(t, b)
	finish(t, g)
	tellsNot(t, b, api.ErrLong)
}

func submit(t *testing.T, g *engine.Engine, a api.Ask) int {
	t.Helper()
	id, e := g.Submit(a)
	if e != api.OK {
		t.Fatalf("engine.Submit of %+v answered the error %d", a, e)
	}
	return id
}

func cancel(t *testing.T, g *engine.Engine, id int) {
	t.Helper()
	if e := g.Cancel(id); e != api.OK {
		t.Fatalf("engine.Cancel(%d) answered the error %d", id, e)
	}
}
