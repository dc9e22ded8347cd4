package beam

import (
	"cmp"
	"slices"

	"augur/api"
	"augur/heads"
	"augur/model"
	"augur/pool"
	"augur/xform"
)

// search: one that is under way.
type search struct {
	model  *model.Model
	pool   *pool.Pool
	prompt []int
	n      int
	// paths: the first n of all, in their order.
	paths []*path
	// tables: all that may hold blocks.
	tables []*pool.Table
}

// path: a continuation, or the beginning of one.
type path struct {
	api.Beam
	// table: of the text up to here; at first its parent's.
	table *pool.Table
	// read: how many tokens of the text the table has.
	read   int
	logits []int64
}

// step: by which token a path goes on, and its gap then; one that is over goes on by none.
type step struct {
	from  *path
	token int
	gap   int64
}

// run: all rounds up to so many tokens.
func (s *search) run(most int) api.Errno {
	if e := s.begin(); e != api.OK {
		return e
	}
	for range most - 1 {
		if e := s.round(); e != api.OK {
			return e
		}
	}
	// Behind the last tokens nothing comes, so the model need not read them.
	s.goOn()
	return api.OK
}

// begin: the prompt is read, and nothing is behind it yet.
func (s *search) begin() api.Errno {
	s.paths = []*path{{table: s.newTable()}}
	return s.read(s.paths)
}

// round: one token more for each path that is not over, which the model reads.
func (s *search) round() api.Errno {
	s.goOn()
	open := slices.DeleteFunc(slices.Clone(s.paths), func(p *path) bool { return p.Over })
	if e := s.part(open); e != api.OK {
		return e
	}
	return s.read(open)
}

// goOn: the first n of all that the paths may become by one token more. It is enough to go on with these, as each path goes on somewhere without a further gap.
func (s *search) goOn() {
	var steps []step
	for _, p := range s.paths {
		steps = append(steps, p.steps(s.n)...)
	}
	// No path is the beginning of another, so the tokens up to here tell two paths apart.
	slices.SortFunc(steps, func(a, b step) int {
		return cmp.Or(cmp.Compare(a.gap, b.gap), slices.Compare(a.from.Tokens, b.from.Tokens), cmp.Compare(a.token, b.token))
	})
	s.paths = nil
	for _, next := range steps[:min(s.n, len(steps))] {
		s.paths = append(s.paths, next.path())
	}
}

// steps: the first k of all by which a path may go on.
func (p *path) steps(k int) []step {
	if p.Over {
		return []step{{from: p, gap: p.Gap}}
	}
	var steps []step
	best := slices.Max(p.logits)
	for _, token := range heads.Top(p.logits, k) {
		steps = append(steps, step{from: p, token: token, gap: p.Gap + best - p.logits[token]})
	}
	return steps
}

// path: what a path becomes by the step.
func (s step) path() *path {
	if s.from.Over {
		return s.from
	}
	tokens := slices.Concat(s.from.Tokens, []int{s.token})
	return &path{Beam: api.Beam{Tokens: tokens, Gap: s.gap, Over: s.token == api.End}, table: s.from.table, read: s.from.read}
}

// part: each of the paths gets a table of its own, which shares its parent's blocks; the parents' go.
func (s *search) part(paths []*path) api.Errno {
	parents := s.tables
	for _, p := range paths {
		blocks := p.table.Blocks()
		p.table = s.newTable()
		if e := p.table.Share(blocks...); e != api.OK {
			return e
		}
	}
	// They go ahead of any writing: so a block is copied only where two paths need it.
	letGo(parents)
	s.tables = s.tables[len(parents):]
	return api.OK
}

func (s *search) newTable() *pool.Table {
	table := pool.NewTable(s.pool)
	s.tables = append(s.tables, table)
	return table
}

// letGo: none of the tables has blocks any more.
func letGo(tables []*pool.Table) {
	for _, table := range tables {
		table.Trim(0)
	}
}

// read: the model reads, in one pass, what it has not read yet of each path's text; then it is known what may follow.
func (s *search) read(paths []*path) api.Errno {
	var items []api.Item
	var ends []int
	for _, p := range paths {
		more, e := s.items(p)
		if e != api.OK {
			return e
		}
		items = append(items, more...)
		ends = append(ends, len(items)-1)
	}
	vectors, e := xform.Pass(s.model, s.pool, items...)
	if e != api.OK {
		return e
	}
	for i, p := range paths {
		if p.logits, e = heads.Logits(s.model, vectors[ends[i]]); e != api.OK {
			return e
		}
	}
	return api.OK
}

// items: what the model has not read yet of a path's text; its table gets room for it.
func (s *search) items(p *path) ([]api.Item, api.Errno) {
	text := slices.Concat(s.prompt, p.Tokens)
	if e := p.table.Grow(len(text)); e != api.OK {
		return nil, e
	}
	// The block may be another path's too, which has another token there.
	if e := p.table.Own(p.read); e != api.OK {
		return nil, e
	}
	slots := make([]int, len(text))
	for pos := range slots {
		slot, e := p.table.Slot(pos)
		if e != api.OK {
			return nil, e
		}
		slots[pos] = slot
	}
	var items []api.Item
	for ; p.read < len(text); p.read++ {
		items = append(items, api.Item{Token: text[p.read], Pos: p.read, Slot: slots[p.read], See: slots[:p.read]})
	}
	return items, api.OK
}

// beams: the paths as they are answered.
func (s *search) beams() []api.Beam {
	beams := make([]api.Beam, len(s.paths))
	for i, p := range s.paths {
		beams[i] = p.Beam
	}
	return beams
}
