package engine_test

import (
	"slices"
	"testing"

	"augur/api"
	"augur/engine"
	"augur/gauge"
	"augur/medusa"
	"augur/model"
	"augur/ngram"
	"augur/pool"
	"augur/prefix"
	"augur/sched"
	"augur/testaid"
	"augur/tree"
	"augur/xform"
)

// The chapter's words, said a second time. Nothing is passed through the model here: what a request answers is Ref, found one token at a time without a cache, and guesses are held against it.

// greedy: DOC.md's.
var greedy = testaid.Greedy

// row: a request as the words tell it.
type row struct {
	ask    api.Ask
	ref    []int       // Ref of it
	points []api.Point // Full of its prompt and Ref
	told   int         // so many of ref are answered
	over   int         // Done, Cancelled; 0: it is live
	table  *pool.Table
	cached int
	gauge  api.Gauge
	vector bool // is there a last vector?
	offer  []api.RawNode
}

// book: an engine as the words tell it. Its pool is for who holds which block alone.
type book struct {
	t     *testing.T
	m     *model.Model
	v     api.Vocab
	c     api.Serve
	pool  *pool.Pool
	cache *prefix.Cache
	rows  []*row
	seen  counts
}

// counts: how often what a test wants to see came about.
type counts struct {
	shared, out, shrunk, straight, crooked, wrong, others, again, ended, guided, vectorless int
}

func newBook(t *testing.T, m *model.Model, v api.Vocab, c api.Serve) *book {
	t.Helper()
	p, e := pool.New(1, 1, c.Blocks, c.Block)
	if e != api.OK {
		t.Fatalf("no pool: %d", e)
	}
	return &book{t: t, m: m, v: v, c: c, pool: p, cache: prefix.New(p)}
}

// reference: Ref of a request.
func reference(t *testing.T, m *model.Model, v api.Vocab, a api.Ask) []int {
	t.Helper()
	ref, e := testaid.Ref(m, v, a)
	if e != api.OK {
		t.Fatalf("no Ref of %+v: %d", a, e)
	}
	return ref
}

// submit: a request that is accepted.
func (b *book) submit(a api.Ask) int {
	b.t.Helper()
	a.Prompt = slices.Clone(a.Prompt)
	r := &row{ask: a, ref: reference(b.t, b.m, b.v, a), table: pool.NewTable(b.pool)}
	r.points, _ = xform.Full(b.m, slices.Concat(a.Prompt, r.ref))
	r.gauge, _ = gauge.New(b.c.Tree)
	b.rows = append(b.rows, r)
	return len(b.rows)
}

// live: the row of a live request, or nil.
func (b *book) live(id int) *row {
	if id < 1 || id > len(b.rows) || b.rows[id-1].over != 0 {
		return nil
	}
	return b.rows[id-1]
}

func (b *book) lives() []int {
	var ids []int
	for id := range b.rows {
		if b.live(id+1) != nil {
			ids = append(ids, id+1)
		}
	}
	return ids
}

func (b *book) cancel(id int) {
	b.rows[id-1].letGo()
	b.rows[id-1].over = api.Cancelled
}

func (r *row) known() []int { return slices.Concat(r.ask.Prompt, r.ref[:r.told]) }

func (r *row) letGo() {
	r.table.Trim(0)
	r.cached, r.vector = 0, false
}

func (r *row) state() api.State {
	s := api.State{Status: r.over, Tokens: r.ref[:r.told]}
	if s.Status == 0 {
		s.Status = api.Running
		if len(r.table.Blocks()) == 0 {
			s.Status = api.Waiting
		}
	}
	return s
}

// room: what Room tells.
func (b *book) room() [4]int {
	held := map[int]int{}
	for _, id := range b.lives() {
		for _, block := range b.rows[id-1].table.Blocks() {
			held[block]++
		}
	}
	return [4]int{b.c.Blocks, b.pool.Left(), len(held), b.c.Blocks - b.pool.Left() - len(held)}
}

// step: P20.8 to P20.15.
func (b *book) step(picks ...int) api.Report {
	b.t.Helper()
	var seats []api.Seat
	for _, id := range b.lives() {
		r := b.rows[id-1]
		if slices.Contains(picks, id) && len(r.table.Blocks()) == 0 {
			b.share(r)
		}
		seats = append(seats, api.Seat{Id: id, Known: len(r.known()), Cached: r.cached, Want: r.gauge.Size, Held: r.table.Blocks()})
	}
	plan, e := sched.Make(b.c, seats, picks)
	if e != api.OK {
		b.t.Fatalf("no plan: %d", e)
	}
	for _, id := range plan.Out {
		b.rows[id-1].letGo()
		b.seen.out++
	}
	trees := make([][]api.Node, len(plan.Slices))
	out := api.Report{Out: plan.Out}
	for i, s := range plan.Slices {
		r := b.rows[s.Id-1]
		if s.Nodes > 0 {
			trees[i] = b.tree(r, s.Nodes)
		}
		more := s.Prefill + len(trees[i])
		b.grow(r, r.cached+more)
		out.Slots += more
	}
	for i, s := range plan.Slices {
		if s.Nodes > 0 {
			out.Did = append(out.Did, b.decoded(s.Id, trees[i]))
		} else {
			b.filled(b.rows[s.Id-1], s.Prefill)
			out.Did = append(out.Did, api.Did{Id: s.Id, Prefill: s.Prefill})
		}
	}
	return out
}

func (b *book) share(r *row) {
	known := r.known()
	found := b.cache.Find(known[:len(known)-1])
	if len(found) == 0 {
		return
	}
	if e := r.table.Share(found...); e != api.OK {
		b.t.Fatalf("Share: %d", e)
	}
	r.cached = len(found) * b.c.Block
	b.seen.shared++
}

// guesses: the raw tree of a request that decodes.
func (b *book) guesses(r *row) []api.RawNode {
	known := r.known()
	index, _ := ngram.New(4)
	index.Append(known...)
	followed := index.Propose(2, 3)
	var further []api.RawNode
	if r.vector {
		further, _ = medusa.Propose(b.m, r.points[len(known)-2].Hidden, 3, 2, 1)
	}
	switch r.ask.Proposer {
	case api.PGram:
		return followed
	case api.PMedusa:
		return further
	case api.PBoth:
		return tree.Join(followed, further)
	case api.PRaw:
		return r.offer
	}
	return nil
}

// tree: a request's tree of at most so many nodes.
func (b *book) tree(r *row, most int) []api.Node {
	known := r.known()
	if !r.vector && len(known) > 1 {
		b.seen.vectorless++
	}
	whole, e := tree.Clean(known[len(known)-1], b.guesses(r), b.m.Config().Vocab)
	if e != api.OK {
		b.t.Fatalf("Clean: %d", e)
	}
	r.offer = nil
	var out []api.Node
	for _, n := range whole {
		if n.Depth < r.ask.New-r.told && len(out) < most {
			out = append(out, n)
		}
	}
	return out
}

func (b *book) grow(r *row, positions int) {
	lacking := -len(r.table.Blocks())
	for n := 0; n < positions; n += b.c.Block {
		lacking++
	}
	if less := lacking - b.pool.Left(); less > 0 {
		b.seen.shrunk += b.cache.Shrink(less)
	}
	if e := r.table.Grow(positions); e != api.OK {
		b.t.Fatalf("P20.15: the plan's blocks are not there: %d", e)
	}
}

func (b *book) filled(r *row, n int) {
	r.cached += n
	if r.cached != len(r.known())-1 {
		return
	}
	r.vector = true
	if r.told > 0 {
		b.seen.again++
	}
	prompt := r.ask.Prompt
	if len(prompt) > r.cached {
		prompt = prompt[:r.cached]
	}
	for i, block := range b.cache.Find(prompt) {
		if r.table.Blocks()[i] != block {
			b.seen.others++
			return
		}
	}
	if e := b.cache.Keep(prompt, r.table.Blocks()); e != api.OK {
		b.t.Fatalf("Keep: %d", e)
	}
}

// comeTrue: of each node of a tree, whether its way's tokens are the next ones of Ref.
func (r *row) comeTrue(t []api.Node) []bool {
	next := r.ref[r.told:]
	come := make([]bool, len(t))
	come[0] = true
	for i, n := range t[1:] {
		come[i+1] = come[n.Parent] && n.Depth <= len(next) && n.Token == next[n.Depth-1]
	}
	return come
}

// decoded: W4's words.
func (b *book) decoded(id int, t []api.Node) api.Did {
	r := b.rows[id-1]
	k, at := 0, 0
	for i, is := range r.comeTrue(t) {
		if is {
			k, at = t[i].Depth, i
		}
	}
	tokens := r.ref[r.told:]
	tokens = tokens[:min(k+1, len(tokens))]
	switch {
	case at > k:
		b.seen.crooked++
	case k > 0:
		b.seen.straight++
	case len(t) > 1:
		b.seen.wrong++
	}
	r.gauge, _ = gauge.Next(r.gauge, len(t), k)
	r.told += len(tokens)
	r.cached = len(r.known()) - 1
	r.vector = true
	r.table.Trim(r.cached)
	if r.told == len(r.ref) {
		r.letGo()
		r.over = api.Done
		if r.told < r.ask.New {
			b.seen.ended++
		}
		if r.ask.Guide != "" {
			b.seen.guided++
		}
	}
	return api.Did{Id: id, Nodes: len(t), Accepted: k, Tokens: tokens}
}

// agree: all that an engine tells is what the words say.
func (b *book) agree(t *testing.T, g *engine.Engine) {
	t.Helper()
	if live := g.Live(); !slices.Equal(live, b.lives()) {
		t.Fatalf("P20.5: live are %v, want %v", live, b.lives())
	}
	all, free, owned, kept := g.Room()
	if is := [4]int{all, free, owned, kept}; is != b.room() {
		t.Fatalf("P20.7: %v, want %v", is, b.room())
	}
	for i, r := range b.rows {
		id := i + 1
		if s, e := g.Poll(id); e != api.OK || !testaid.SameState(s, r.state()) {
			t.Fatalf("P20.5: request %d of %+v: %v, %d, want %v", id, r.ask, s, e, r.state())
		}
		n, e := g.Filled(id)
		if r.over != 0 && (e != api.ErrRequest || n != 0) || r.over == 0 && (e != api.OK || n != r.cached) {
			t.Fatalf("P20.6: request %d is filled %d, %d, want %d", id, n, e, r.cached)
		}
	}
	b.cacheIsRight(t, g)
	b.blocksAreRight(t, g)
}

// cacheIsRight: W2.
func (b *book) cacheIsRight(t *testing.T, g *engine.Engine) {
	t.Helper()
	for _, id := range b.lives() {
		r := b.rows[id-1]
		for pos := range r.cached {
			for layer := range b.m.Config().Layers {
				k, v, e := g.Cached(id, layer, pos)
				if e != api.OK || !slices.Equal(k, r.points[pos].K[layer]) || !slices.Equal(v, r.points[pos].V[layer]) {
					t.Fatalf("W2: request %d, layer %d, position %d: %v, %v, %d, want %v, %v", id, layer, pos, k, v, e, r.points[pos].K[layer], r.points[pos].V[layer])
				}
			}
		}
	}
}

// blocksAreRight: W3.
func (b *book) blocksAreRight(t *testing.T, g *engine.Engine) {
	t.Helper()
	type spot struct{ id, place int }
	hands := map[int]spot{}
	for _, id := range b.lives() {
		r := b.rows[id-1]
		blocks, e := g.Blocks(id)
		if e != api.OK || len(blocks) != (r.cached+b.c.Block-1)/b.c.Block {
			t.Fatalf("W3: request %d has the blocks %v (%d) for %d tokens", id, blocks, e, r.cached)
		}
		for place, block := range blocks {
			other, is := hands[block]
			if !is {
				hands[block] = spot{id, place}
				continue
			}
			n := (place + 1) * b.c.Block
			o := b.rows[other.id-1]
			if other.id == id || other.place != place || r.cached < n || o.cached < n || !slices.Equal(r.known()[:n], o.known()[:n]) {
				t.Fatalf("W3: block %d is number %d of request %d and number %d of request %d", block, place, id, other.place, other.id)
			}
		}
	}
}

func newModel(t *testing.T, w api.Weights) *model.Model {
	t.Helper()
	m, e := model.New(w)
	if e != api.OK {
		t.Fatalf("no model: %d", e)
	}
	return m
}

func newEngine(t *testing.T, m *model.Model, v api.Vocab, c api.Serve) *engine.Engine {
	t.Helper()
	g, e := engine.New(m, v, c)
	if e != api.OK || g == nil {
		t.Fatalf("no engine of %+v: %d", c, e)
	}
	return g
}
