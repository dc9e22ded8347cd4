package beam

import (
	"slices"
	"testing"

	"augur/api"
	"augur/model"
	"augur/pool"
	"augur/testaid"
	"augur/xform"
)

// Which blocks a search holds while it works cannot be seen from without: so these tests look inside.

// under: a search over a pool of so many blocks, ahead of its first round.
func under(t *testing.T, w api.Weights, prompt []int, n, blocks, size int) *search {
	t.Helper()
	m, e := model.New(w)
	if e != api.OK {
		t.Fatalf("no model: %d", e)
	}
	p, e := pool.New(w.Config.Layers, w.Config.KV*w.Config.Width/w.Config.Heads, blocks, size)
	if e != api.OK {
		t.Fatalf("no pool: %d", e)
	}
	return &search{model: m, pool: p, prompt: prompt, n: n}
}

// even: weights whose logits are alike as often as not, so that many paths stay.
func even(s *testaid.Source, c api.Config) api.Weights {
	w := s.Lively(c)
	for i := range w.Head.Data {
		w.Head.Data[i] = int8(s.Below(2))
	}
	testaid.Overwrite(w.Final, 1)
	return w
}

// open: the paths that go on.
func (s *search) open() []*path {
	return slices.DeleteFunc(slices.Clone(s.paths), func(p *path) bool { return p.Over })
}

// isCached: what an open path's table leads to is Full's of its text.
func isCached(t *testing.T, s *search, p *path) {
	t.Helper()
	points, e := xform.Full(s.model, slices.Concat(s.prompt, p.Tokens))
	if e != api.OK || p.read != len(points) {
		t.Fatalf("Full answered the error %d; %d of %d are read", e, p.read, len(points))
	}
	for pos, point := range points {
		slot, _ := p.table.Slot(pos)
		for layer := range point.K {
			k, v, e := s.pool.Get(layer, slot)
			if e != api.OK || !slices.Equal(k, point.K[layer]) || !slices.Equal(v, point.V[layer]) {
				t.Fatalf("P26.2: of %v position %d is not in the cache", p.Tokens, pos)
			}
		}
	}
}

// alike: the blocks of two open paths are the same just as far as whole blocks of their texts are.
func alike(t *testing.T, s *search, a, b *path) {
	t.Helper()
	_, _, _, size := s.pool.Shape()
	common := 0
	for a.Tokens[common] == b.Tokens[common] {
		common++
	}
	whole := (len(s.prompt) + common) / size
	for i, block := range a.table.Blocks() {
		if same := b.table.Blocks()[i] == block; same != (i < whole) {
			t.Fatalf("P26.2: %v and %v, blocks of %d: %v and %v", a.Tokens, b.Tokens, size, a.table.Blocks(), b.table.Blocks())
		}
	}
}

// holds: the blocks in use are those of the open paths, each of just as many as it needs, and each block's count tells how many have it.
func holds(t *testing.T, s *search) {
	t.Helper()
	_, _, blocks, size := s.pool.Shape()
	counts := make([]int, blocks)
	for _, p := range s.open() {
		own := p.table.Blocks()
		if len(own) != blocksOf(p.read, size) {
			t.Fatalf("P26.2: %d blocks of %d for %d tokens", len(own), size, p.read)
		}
		for _, block := range own {
			counts[block]++
		}
	}
	for block, count := range counts {
		if s.pool.Count(block) != count {
			t.Fatalf("P26.2: block %d is held %d times, and %d have it", block, s.pool.Count(block), count)
		}
	}
}

// Behind each round: what is cached is right, like beginnings are kept once, and nothing else is held.
func TestRounds(t *testing.T) {
	s := testaid.Source(2630)
	shared, copied := 0, 0
	for _, c := range []api.Config{
		{Vocab: 2, Width: 2, Heads: 1, KV: 1, Layers: 1, Hidden: 1, Len: 24},
		{Vocab: 5, Width: 8, Heads: 4, KV: 2, Layers: 2, Hidden: 3, Len: 12},
		{Vocab: 40, Width: 4, Heads: 2, KV: 1, Layers: 3, Hidden: 5, Len: 16},
	} {
		for size := 1; size <= api.MaxBlock; size++ {
			prompt := []int{1, 1, 0, 1, 1, 1}[:1+s.Below(6)]
			on := under(t, even(&s, c), prompt, 1+s.Below(8), api.MaxBlocks, size)
			if e := on.begin(); e != api.OK {
				t.Fatalf("begin: %d", e)
			}
			holds(t, on)
			for range c.Len - len(prompt) - 1 {
				if e := on.round(); e != api.OK {
					t.Fatalf("round: %d", e)
				}
				holds(t, on)
				open := on.open()
				for i, p := range open {
					isCached(t, on, p)
					for _, other := range open[:i] {
						alike(t, on, p, other)
						if p.table.Blocks()[0] == other.table.Blocks()[0] {
							shared++
						} else {
							copied++
						}
					}
				}
			}
			letGo(on.tables)
			if on.pool.Left() != api.MaxBlocks {
				t.Fatalf("P26.4: %d blocks are free in the end", on.pool.Left())
			}
		}
	}
	if shared < 500 || copied < 500 {
		t.Errorf("only %d pairs of paths share their first block, %d do not", shared, copied)
	}
}

// A search never takes more blocks than it asks for; one that is begun all the same with too few gives back what it took.
func TestTooFewBlocks(t *testing.T) {
	s := testaid.Source(2631)
	c := api.Config{Vocab: 3, Width: 4, Heads: 2, KV: 1, Layers: 1, Hidden: 2, Len: 10}
	ended := map[api.Errno]int{}
	for range 40 {
		w := even(&s, c)
		n, size, prompt := 1+s.Below(6), 1+s.Below(5), []int{1, 2, 1}[:1+s.Below(3)]
		most := c.Len - len(prompt)
		asked := n * (blocksOf(c.Len, size) + 1)
		for blocks := 1; blocks <= asked; blocks++ {
			on := under(t, w, prompt, n, blocks, size)
			e := on.run(most)
			if e != api.OK && (e != api.ErrFull || blocks == asked) {
				t.Fatalf("P26.2: with %d blocks of the %d that are asked for: %d", blocks, asked, e)
			}
			ended[e]++
			letGo(on.tables)
			if on.pool.Left() != blocks {
				t.Fatalf("P26.4: %d of %d blocks are free in the end", on.pool.Left(), blocks)
			}
		}
	}
	if ended[api.OK] < 50 || ended[api.ErrFull] < 50 {
		t.Errorf("only so many ended well, or did not: %v", ended)
	}
}
