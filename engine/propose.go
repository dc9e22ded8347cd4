package engine

import (
	"augur/api"
	"augur/medusa"
	"augur/ngram"
	"augur/tree"
)

// How many places of the text are taken, and how many tokens behind each.
const (
	gramWays = 2
	gramDeep = 3
)

// proposer: what a kind of proposer guesses of a request that decodes.
type proposer struct {
	kind    int
	propose func(e *Engine, r *request) []api.RawNode
}

// proposers: one a kind.
func proposers() []proposer {
	return []proposer{
		{kind: api.PNone, propose: nothing},
		{kind: api.PGram, propose: whatFollowed},
		{kind: api.PMedusa, propose: furtherHeads},
		{kind: api.PBoth, propose: both},
		{kind: api.PRaw, propose: offered},
	}
}

// proposerOf: how one of a kind guesses; nil, if there is no such kind.
func proposerOf(kind int) func(e *Engine, r *request) []api.RawNode {
	for _, p := range proposers() {
		if p.kind == kind {
			return p.propose
		}
	}
	return nil
}

func nothing(*Engine, *request) []api.RawNode { return nil }

// whatFollowed: behind the same tokens in the request's own text.
func whatFollowed(_ *Engine, r *request) []api.RawNode {
	index, err := ngram.New(api.MaxGram)
	must(err)
	index.Append(r.known...)
	return index.Propose(gramWays, gramDeep)
}

// furtherHeads: what the model's Medusa heads make of the last vector.
func furtherHeads(e *Engine, r *request) []api.RawNode {
	if r.last == nil {
		return nil
	}
	raw, err := medusa.Propose(e.model, r.last, 3, 2, 1)
	must(err)
	return raw
}

func both(e *Engine, r *request) []api.RawNode {
	return tree.Join(whatFollowed(e, r), furtherHeads(e, r))
}

// offered: the offer, which is used by this.
func offered(_ *Engine, r *request) []api.RawNode {
	raw := r.offer
	r.offer = nil
	return raw
}

// treeOf: a request's tree of at most so many nodes.
func (e *Engine) treeOf(r *request, most int) []api.Node {
	propose := proposerOf(r.proposer)
	whole, err := tree.Clean(r.root(), propose(e, r), e.model.Config().Vocab)
	must(err)
	// Depths never fall: what is too deep stands behind all that is not.
	n := 0
	for n < len(whole) && whole[n].Depth < r.left() {
		n++
	}
	cut, err := tree.Cut(whole, min(n, most))
	must(err)
	return cut
}
