package engine

import (
	"slices"

	"augur/api"
	"augur/sched"
	"augur/xform"
)

// part: what a request does in a step.
type part struct {
	*request
	slice   api.Slice
	tree    []api.Node // of one that decodes
	items   []api.Item
	vectors [][]int8 // the items' last vectors, once the pass gave them
}

// Step: one step for the picked requests.
func (e *Engine) Step(picks ...int) (report api.Report) {
	if e == nil {
		return api.Report{}
	}
	picked := e.picked(picks)
	defer func() {
		// Half of a step may be done: without their tables those who were at it begin anew, and lose nothing that was answered.
		if recover() != nil {
			for _, r := range picked {
				r.letGo()
			}
		}
	}()
	e.share(picked)
	plan := e.plan(picks)
	report.Out = plan.Out
	parts := e.partsOf(plan.Slices)
	for _, p := range parts {
		e.prepare(p)
	}
	report.Slots = e.pass(parts)
	for _, p := range parts {
		report.Did = append(report.Did, e.settle(p))
	}
	return report
}

// must gives the step up if a call that can't fail does so after all.
func must(err api.Errno) {
	if err != api.OK {
		panic(err)
	}
}

// picked: the live requests whose numbers these are, the oldest first.
func (e *Engine) picked(picks []int) []*request {
	var list []*request
	for _, r := range e.live {
		if slices.Contains(picks, r.id) {
			list = append(list, r)
		}
	}
	return list
}

// share: those who have no blocks begin with what is kept of texts that begin like theirs.
func (e *Engine) share(picked []*request) {
	for _, r := range picked {
		if !r.isWaiting() {
			continue
		}
		blocks := e.prompts.Find(r.known[:len(r.known)-1])
		must(r.table.Share(blocks...))
		r.cached = len(blocks) * e.measures.Block
	}
}

// plan: who does what; those who are out have lost their blocks.
func (e *Engine) plan(picks []int) api.Plan {
	var seats []api.Seat
	for _, r := range e.live {
		seats = append(seats, api.Seat{Id: r.id, Known: len(r.known), Cached: r.cached, Want: r.gauge.Size, Held: r.table.Blocks()})
	}
	plan, err := sched.Make(e.measures, seats, picks)
	must(err)
	for _, id := range plan.Out {
		r, err := e.find(id)
		must(err)
		r.letGo()
	}
	return plan
}

// partsOf: a part for each of a plan's slices.
func (e *Engine) partsOf(list []api.Slice) []*part {
	var parts []*part
	for _, slice := range list {
		r, err := e.find(slice.Id)
		must(err)
		parts = append(parts, &part{request: r, slice: slice})
	}
	return parts
}

// prepare: what goes to the pass, and the blocks for it.
func (e *Engine) prepare(p *part) {
	if p.slice.Nodes == 0 {
		e.makeRoom(p.request, p.slice.Prefill)
		p.items = p.pieceItems()
		return
	}
	p.tree = e.treeOf(p.request, p.slice.Nodes)
	e.makeRoom(p.request, len(p.tree))
	p.items = p.treeItems()
}

// makeRoom: the table has blocks for so many positions behind the cached ones; what is kept of prompts alone gives way.
func (e *Engine) makeRoom(r *request, more int) {
	positions, size := r.cached+more, e.measures.Block
	lacking := (positions+size-1)/size - len(r.table.Blocks())
	e.prompts.Shrink(lacking - e.pool.Left())
	must(r.table.Grow(positions))
}

// pieceItems: the next known tokens, each of which sees all positions ahead of it.
func (p *part) pieceItems() []api.Item {
	slots := p.slots(p.cached + p.slice.Prefill)
	var items []api.Item
	for pos := p.cached; pos < len(slots); pos++ {
		items = append(items, api.Item{Token: p.known[pos], Pos: pos, Slot: slots[pos], See: slots[:pos]})
	}
	return items
}

// treeItems: the nodes of the tree, each of which sees what is cached and the nodes above it.
func (p *part) treeItems() []api.Item {
	slots := p.slots(p.cached + len(p.tree))
	cached, own := slots[:p.cached], slots[p.cached:]
	var items []api.Item
	for i, n := range p.tree {
		see := cached
		if n.Parent >= 0 {
			see = slices.Concat(items[n.Parent].See, own[n.Parent:n.Parent+1])
		}
		items = append(items, api.Item{Token: n.Token, Pos: len(p.known) - 1 + n.Depth, Slot: own[i], See: see})
	}
	return items
}

// pass: all items go through the model at one time; how many they are.
func (e *Engine) pass(parts []*part) int {
	var items []api.Item
	for _, p := range parts {
		items = append(items, p.items...)
	}
	vectors, err := xform.Pass(e.model, e.pool, items...)
	must(err)
	for _, p := range parts {
		n := len(p.items)
		p.vectors, vectors = vectors[:n], vectors[n:]
	}
	return len(items)
}
