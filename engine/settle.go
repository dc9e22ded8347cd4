package engine

import (
	"slices"

	"augur/api"
	"augur/gauge"
	"augur/heads"
	"augur/judge"
	"augur/pick"
)

// settle: what the pass has brought a request.
func (e *Engine) settle(p *part) api.Did {
	if p.slice.Nodes == 0 {
		e.fill(p)
		return api.Did{Id: p.id, Prefill: p.slice.Prefill}
	}
	return e.decode(p)
}

// fill: more known tokens are cached.
func (e *Engine) fill(p *part) {
	p.cached += p.slice.Prefill
	if p.isFilled() {
		p.last = p.vectors[len(p.vectors)-1]
		e.keepPrompt(p.request)
	}
}

// keepPrompt: the whole blocks of a request's prompt are kept for others, unless other blocks are kept for its beginning already.
func (e *Engine) keepPrompt(r *request) {
	prompt := r.known[:min(r.prompt, r.cached)]
	own, kept := r.table.Blocks(), e.prompts.Find(prompt)
	if slices.Equal(own[:len(kept)], kept) {
		must(e.prompts.Keep(prompt, own))
	}
}

// decode: the longest way that the request's own choices confirm is answered, and what is chosen behind it.
func (e *Engine) decode(p *part) api.Did {
	way, next, err := judge.Walk(p.tree, e.choices(p))
	must(err)
	tokens, over, err := judge.Take(p.tree, way, next, p.left())
	must(err)
	accepted := len(way) - 1
	size, err := gauge.Next(p.gauge, len(p.tree), accepted)
	must(err)
	e.straighten(p, way)
	p.gauge = size
	p.cached += len(way)
	p.last = p.vectors[way[accepted]]
	must(p.table.Trim(p.cached))
	p.answer(tokens)
	if over {
		e.end(p.request, api.Done)
	}
	return api.Did{Id: p.id, Nodes: len(p.tree), Accepted: accepted, Tokens: tokens}
}

// choices: what the request's own rules choose behind each node of its tree, as if the way to it were the text.
func (e *Engine) choices(p *part) []int {
	chosen := make([]int, len(p.tree))
	texts, states := make([][]int, len(p.tree)), make([]int, len(p.tree))
	for i, n := range p.tree {
		texts[i], states[i] = p.known, p.state
		if n.Parent >= 0 {
			texts[i] = slices.Concat(texts[n.Parent], []int{n.Token})
			states[i] = p.behind(states[n.Parent], n.Token)
		}
		chosen[i] = e.choose(p.request, p.vectors[i], texts[i], states[i])
	}
	return chosen
}

// choose: the token behind a text whose last vector this is.
func (e *Engine) choose(r *request, vector []int8, text []int, state int) int {
	// What follows a token that is not allowed does not matter: nobody comes to it.
	if state == nowhere {
		return api.End
	}
	logits, err := heads.Logits(e.model, vector)
	must(err)
	token, err := pick.Choose(r.params, logits, text, len(text), r.allow(state))
	must(err)
	return token
}

// straighten: the way's keys and values come to stand right behind the cached ones.
func (e *Engine) straighten(p *part, way []int) {
	nodes := p.slots(p.cached + len(p.tree))[p.cached:]
	moves, err := judge.Plan(way, nodes, nodes)
	must(err)
	must(e.pool.Move(moves...))
}
