package router_test

import (
	"slices"
	"testing"

	"augur/api"
	"augur/router"
	"augur/testaid"
)

// tiny: a router over chapter 20's model and so many engines of its measures.
func tiny(t *testing.T, engines int) *router.Router {
	t.Helper()
	return tinyOf(t, testaid.TinyServe, engines)
}

// roomy: the same with blocks and budget for all requests that an engine may have.
func roomy(t *testing.T, engines int) *router.Router {
	t.Helper()
	return tinyOf(t, api.Serve{Blocks: 256, Block: 2, Budget: 256, Chunk: 3, Tree: 4}, engines)
}

func tinyOf(t *testing.T, c api.Serve, engines int) *router.Router {
	t.Helper()
	return newRouter(t, newModel(t, testaid.Tiny()), testaid.TinyVocab(), slices.Repeat([]api.Serve{c}, engines)...)
}

// greedily: a request for so many tokens behind a prompt.
func greedily(n int, prompt ...int) api.Ask {
	return api.Ask{Prompt: prompt, New: n, Params: testaid.Greedy}
}

func submits(t *testing.T, r *router.Router, want int, a api.Ask) {
	t.Helper()
	if id, e := r.Submit(a); id != want || e != api.OK {
		t.Fatalf("P27.2: Submit(%+v) = %d, %d, want %d", a, id, e, want)
	}
}

// refuses: Submit answers this error.
func refuses(t *testing.T, r *router.Router, want api.Errno, a api.Ask) {
	t.Helper()
	if id, e := r.Submit(a); id != 0 || e != want {
		t.Errorf("P27.2: Submit of %d tokens, %d new = %d, %d, want the error %d", len(a.Prompt), a.New, id, e, want)
	}
}

// are: where the requests from number 1 on are.
func are(t *testing.T, r *router.Router, at ...int) {
	t.Helper()
	for i, want := range at {
		if n, e := r.Where(i + 1); n != want || e != api.OK {
			t.Fatalf("P27.3: Where(%d) = %d, %d, want %d", i+1, n, e, want)
		}
	}
}

// isNowhere: there is no such request, or it is over.
func isNowhere(t *testing.T, r *router.Router, ids ...int) {
	t.Helper()
	for _, id := range ids {
		if n, e := r.Where(id); n != 0 || e != api.ErrRequest {
			t.Errorf("P27.3: Where(%d) = %d, %d", id, n, e)
		}
	}
}

func polls(t *testing.T, r *router.Router, id, status int, tokens ...int) {
	t.Helper()
	if s, e := r.Poll(id); e != api.OK || !testaid.SameState(s, api.State{Status: status, Tokens: tokens}) {
		t.Fatalf("P27.3: Poll(%d) = %v, %d, want %d, %v", id, s, e, status, tokens)
	}
}

// answers: a call that answers an error alone answers this one.
func answers(t *testing.T, what string, is, want api.Errno) {
	t.Helper()
	if is != want {
		t.Fatalf("%s: the error %d, want %d", what, is, want)
	}
}

// steps: Step of these picks tells just this, engine by engine.
func steps(t *testing.T, r *router.Router, picks []int, want ...api.Report) {
	t.Helper()
	if is := r.Step(picks...); !slices.EqualFunc(is, want, testaid.SameReport) {
		t.Fatalf("P27.8: Step(%v) = %+v, want %+v", picks, is, want)
	}
}

// one: the report of a step in which these requests decode without guesses, and are told 1 each.
func one(ids ...int) api.Report {
	out := api.Report{Slots: len(ids)}
	for _, id := range ids {
		out.Did = append(out.Did, api.Did{Id: id, Nodes: 1, Tokens: []int{1}})
	}
	return out
}

// The chapter's examples, one behind the other.
func TestExamples(t *testing.T) {
	m, few := newModel(t, testaid.Tiny()), testaid.TinyServe
	few.Blocks = 5
	if r, e := router.New(m, testaid.TinyVocab()); r != nil || e != api.ErrArg {
		t.Errorf("P27.1: without measures: %d", e)
	}
	if r, e := router.New(m, testaid.TinyVocab(), few); r != nil || e != api.ErrServe {
		t.Errorf("P27.1: Blocks 5: %d", e)
	}
	r, none := tiny(t, 2), api.Report{}
	submits(t, r, 1, greedily(3, 1))
	submits(t, r, 2, greedily(3, 1))
	are(t, r, 0, 1)
	submits(t, r, 3, greedily(3, 1))
	are(t, r, 0, 1, 0)
	steps(t, r, []int{1, 2, 3}, one(1, 3), one(2))
	answers(t, "P27.5: Lose(0)", r.Lose(0), api.OK)
	are(t, r, 1, 1, 1)
	polls(t, r, 1, api.Waiting, 1)
	steps(t, r, []int{1}, none, one(1))
	polls(t, r, 1, api.Running, 1)
	steps(t, r, []int{1}, none, one(1))
	polls(t, r, 1, api.Running, 1, 1)
	answers(t, "P27.5: Lose(1)", r.Lose(1), api.OK)
	are(t, r, -1, -1, -1)
	polls(t, r, 1, api.Waiting, 1, 1)
	polls(t, r, 2, api.Waiting, 1)
	polls(t, r, 3, api.Waiting, 1)
	refuses(t, r, api.ErrLost, greedily(3, 1))
	answers(t, "P27.5: Lose(1) again", r.Lose(1), api.ErrLost)
	steps(t, r, []int{1}, none, none)
	answers(t, "P27.6: Join(0)", r.Join(0), api.OK)
	are(t, r, 0, 0, 0)
	answers(t, "P27.4: Move(1, 1)", r.Move(1, 1), api.ErrLost)
	answers(t, "P27.6: Join(1)", r.Join(1), api.OK)
	answers(t, "P27.4: Move(1, 1)", r.Move(1, 1), api.OK)
	are(t, r, 1, 0, 0)
	answers(t, "P27.4: Move(1, 1) again", r.Move(1, 1), api.OK)
	answers(t, "P27.4: Move(1, 2)", r.Move(1, 2), api.ErrArg)
	answers(t, "P27.6: Join(0) again", r.Join(0), api.ErrArg)
	answers(t, "P27.4: Move(9, 0)", r.Move(9, 0), api.ErrRequest)
	are(t, r, 1, 0, 0)
	polls(t, r, 1, api.Waiting, 1, 1)
}
