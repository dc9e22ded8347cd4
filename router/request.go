package router

import (
	"slices"

	"augur/api"
)

// request: what a router keeps of one.
type request struct {
	number int
	ask    api.Ask
	at     *machine // nil: none
	inner  int      // its number at that one's engine
	// kept: the tokens that were told of it when it left an engine last; status: what is told of one that is at none.
	kept   []int
	status int
}

// told: never less than what was kept, also where it was begun again.
func (q *request) told() api.State {
	if q.at == nil {
		return api.State{Status: q.status, Tokens: slices.Clone(q.kept)}
	}
	state, _ := q.at.engine.Poll(q.inner)
	if len(state.Tokens) < len(q.kept) {
		state.Tokens = slices.Clone(q.kept)
	}
	return state
}

// leave: it is at no engine any more, and what was told of it is kept.
func (q *request) leave() {
	state := q.told()
	if !isOver(state.Status) {
		state.Status = api.Waiting
	}
	q.at, q.kept, q.status = nil, state.Tokens, state.Status
}

func isOver(status int) bool { return status == api.Done || status == api.Cancelled }
