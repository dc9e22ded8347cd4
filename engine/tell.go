package engine

import (
	"slices"

	"augur/api"
)

// Poll: a request's status and tokens.
func (e *Engine) Poll(id int) (api.State, api.Errno) {
	r, err := e.find(id)
	if err == api.OK {
		return api.State{Status: r.status(), Tokens: slices.Clone(r.answered())}, api.OK
	}
	if e == nil {
		return api.State{}, err
	}
	state, was := e.over[id]
	if !was {
		return api.State{}, err
	}
	state.Tokens = slices.Clone(state.Tokens)
	return state, api.OK
}

// Live: the numbers of the requests that are not over, in rising order.
func (e *Engine) Live() []int {
	if e == nil {
		return nil
	}
	var ids []int
	for _, r := range e.live {
		ids = append(ids, r.id)
	}
	return ids
}

// Cached: a request's keys and values at a layer and a position, as they stand in the pool.
func (e *Engine) Cached(id, layer, pos int) (k, v []int8, err api.Errno) {
	r, err := e.find(id)
	if err != api.OK {
		return nil, nil, err
	}
	if layer < 0 || layer >= e.model.Config().Layers || pos < 0 || pos >= r.cached {
		return nil, nil, api.ErrArg
	}
	slot, err := r.table.Slot(pos)
	if err != api.OK {
		return nil, nil, err
	}
	return e.pool.Get(layer, slot)
}

// Filled: how many tokens of a request are cached.
func (e *Engine) Filled(id int) (int, api.Errno) {
	r, err := e.find(id)
	if err != api.OK {
		return 0, err
	}
	return r.cached, api.OK
}

// Blocks: the blocks of a request, position by position.
func (e *Engine) Blocks(id int) ([]int, api.Errno) {
	r, err := e.find(id)
	if err != api.OK {
		return nil, err
	}
	return r.table.Blocks(), api.OK
}

// Room: blocks in all, free ones, held by requests, held by known prompts alone.
func (e *Engine) Room() (all, free, owned, kept int) {
	if e == nil {
		return 0, 0, 0, 0
	}
	var held []int
	for _, r := range e.live {
		held = append(held, r.table.Blocks()...)
	}
	slices.Sort(held)
	all, free, owned = e.measures.Blocks, e.pool.Left(), len(slices.Compact(held))
	return all, free, owned, all - free - owned
}
