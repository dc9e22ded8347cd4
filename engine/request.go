package engine

import (
	"slices"

	"augur/api"
	"augur/gauge"
	"augur/guide"
	"augur/pool"
)

// nowhere: the guide's state behind a token that is not allowed.
const nowhere = -1

// request: a live one.
type request struct {
	id       int
	proposer int
	params   api.Params
	// known: the prompt, so many tokens, and behind it what was answered; most: how many tokens these may become.
	known        []int
	prompt, most int
	table        *pool.Table
	// cached: how many of the known tokens, the first ones, have their keys and values in the table.
	cached int
	gauge  api.Gauge
	guide  *guide.Guide // nil: none
	state  int          // the guide's, behind what was answered
	last   []int8       // the model's vector of the position ahead of the root's; nil: none
	offer  []api.RawNode
}

// newRequest: the next one, of an ask in which only the guide may be wrong.
func (e *Engine) newRequest(a api.Ask) (*request, api.Errno) {
	g, err := e.guideOf(a.Guide)
	if err != api.OK {
		return nil, err
	}
	size, err := gauge.New(e.measures.Tree)
	if err != api.OK {
		return nil, err
	}
	return &request{
		id:       len(e.live) + len(e.over) + 1,
		proposer: a.Proposer,
		params:   a.Params,
		known:    slices.Clone(a.Prompt),
		prompt:   len(a.Prompt),
		most:     len(a.Prompt) + a.New,
		table:    pool.NewTable(e.pool),
		gauge:    size,
		guide:    g,
		state:    g.Start(),
	}, api.OK
}

func (r *request) answered() []int { return r.known[r.prompt:] }

// left: how many tokens may still be answered.
func (r *request) left() int { return r.most - len(r.known) }

// root: the last known token, which is never cached.
func (r *request) root() int { return r.known[len(r.known)-1] }

// isFilled: is all but the root cached?
func (r *request) isFilled() bool { return r.cached == len(r.known)-1 }

func (r *request) isWaiting() bool { return len(r.table.Blocks()) == 0 }

func (r *request) status() int {
	if r.isWaiting() {
		return api.Waiting
	}
	return api.Running
}

// letGo: its table has no blocks any more, and what stood in them is not cached.
func (r *request) letGo() {
	r.table.Trim(0)
	r.cached, r.last = 0, nil
}

// slots: those of the first n positions, for which the table has blocks.
func (r *request) slots(n int) []int {
	slots := make([]int, n)
	for pos := range slots {
		slot, err := r.table.Slot(pos)
		must(err)
		slots[pos] = slot
	}
	return slots
}

// behind: the guide's state behind a token; nowhere, once one was not allowed. Without a guide nothing changes.
func (r *request) behind(state, token int) int {
	if r.guide == nil || state == nowhere {
		return state
	}
	next, err := r.guide.Next(state, token)
	must(err)
	return next
}

// allow: which tokens may come in a state that is somewhere; of no guide none are named, which means all.
func (r *request) allow(state int) []bool {
	if r.guide == nil {
		return nil
	}
	allow, err := r.guide.Allow(state)
	must(err)
	return allow
}

// answer: more tokens are known.
func (r *request) answer(tokens []int) {
	state := r.state
	for _, token := range tokens {
		state = r.behind(state, token)
	}
	r.known, r.state = append(r.known, tokens...), state
}
