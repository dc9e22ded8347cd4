package xform_test

import (
	"math"
	"slices"
	"testing"

	"augur/api"
	"augur/model"
	"augur/pool"
	"augur/testaid"
	"augur/xform"
)

// poolFor: one of a model's shape; these of its blocks are in use.
func poolFor(t *testing.T, c api.Config, blocks, size int, used ...int) *pool.Pool {
	t.Helper()
	return poolOf(t, c.Layers, c.KV*(c.Width/c.Heads), blocks, size, used...)
}

func poolOf(t *testing.T, layers, width, blocks, size int, used ...int) *pool.Pool {
	t.Helper()
	p, e := pool.New(layers, width, blocks, size)
	if e != api.OK {
		t.Fatalf("no pool: error %d", e)
	}
	for range blocks {
		p.Take()
	}
	for b := range blocks {
		if !slices.Contains(used, b) {
			p.Drop(b)
		}
	}
	return p
}

// counts: of all blocks of a pool.
func counts(p *pool.Pool) []int {
	_, _, blocks, _ := p.Shape()
	var list []int
	for b := range blocks {
		list = append(list, p.Count(b))
	}
	return list
}

// shelfOf: what stands in all slots in use of a pool, in new memory.
func shelfOf(t *testing.T, p *pool.Pool) shelf {
	t.Helper()
	layers, _, blocks, size := p.Shape()
	on := shelf{}
	for slot := range blocks * size {
		if p.Count(slot/size) == 0 {
			continue
		}
		for layer := range layers {
			k, v, e := p.Get(layer, slot)
			if e != api.OK {
				t.Fatalf("Get(%d, %d): error %d", layer, slot, e)
			}
			on[[2]int{layer, slot}] = [2][]int8{k, v}
		}
	}
	return on
}

func sameShelf(t *testing.T, what string, got, want shelf) {
	t.Helper()
	if len(got) != len(want) {
		t.Fatalf("%s: %d slots and layers in use, want %d", what, len(got), len(want))
	}
	for at, kv := range want {
		if !slices.Equal(got[at][0], kv[0]) || !slices.Equal(got[at][1], kv[1]) {
			t.Errorf("%s: layer %d, slot %d has %v, want %v", what, at[0], at[1], got[at], kv)
		}
	}
}

// fill puts some numbers, -128 too, in all slots in use, as others may.
func fill(t *testing.T, s *testaid.Source, p *pool.Pool) {
	t.Helper()
	layers, width, blocks, size := p.Shape()
	vector := func() []int8 {
		v := make([]int8, width)
		for i := range v {
			v[i] = int8(s.Below(256) - 128)
		}
		return v
	}
	for slot := range blocks * size {
		for layer := range layers {
			if p.Count(slot/size) == 0 {
				continue
			}
			if e := p.Put(layer, slot, vector(), vector()); e != api.OK {
				t.Fatalf("Put(%d, %d): error %d", layer, slot, e)
			}
		}
	}
}

// passed: the answer of a pass that must be good.
func passed(t *testing.T, m *model.Model, p *pool.Pool, items ...api.Item) [][]int8 {
	t.Helper()
	out, e := xform.Pass(m, p, items...)
	if e != api.OK || len(out) != len(items) {
		t.Fatalf("P8.2: Pass(%v): %d vectors, error %d", items, len(out), e)
	}
	return out
}

// notPassed: a pass that must be refused, and do nothing.
func notPassed(t *testing.T, m *model.Model, p *pool.Pool, want api.Errno, items ...api.Item) {
	t.Helper()
	var was shelf
	var held []int
	if p != nil {
		was, held = shelfOf(t, p), counts(p)
	}
	if out, e := xform.Pass(m, p, items...); e != want || len(out) != 0 {
		t.Errorf("P8.2: Pass(%v): %v, error %d, want %d", items, out, e, want)
	}
	if p != nil {
		sameShelf(t, "P8.2: behind a refused pass", shelfOf(t, p), was)
		if !slices.Equal(counts(p), held) {
			t.Errorf("P8.2: a refused pass changed the counts from %v to %v", held, counts(p))
		}
	}
}

// asWords: a pass must answer and leave what the chapter's words say.
func asWords(t *testing.T, what string, m *model.Model, words wordsOf, p *pool.Pool, items ...api.Item) [][]int8 {
	t.Helper()
	want, held := shelfOf(t, p), counts(p)
	vectors := words.pass(want, items)
	out := passed(t, m, p, items...)
	sameVectors(t, "P8.2: "+what, out, vectors)
	sameShelf(t, "P8.2: "+what, shelfOf(t, p), want)
	if !slices.Equal(counts(p), held) {
		t.Errorf("P8.2: %s changed the counts from %v to %v", what, held, counts(p))
	}
	return out
}

func TestPassExamples(t *testing.T) {
	m := made(t, tinyWeights())
	one, two := []int8{90, 0}, []int8{0, 90}
	fresh := func() *pool.Pool { return poolOf(t, 1, 2, 1, 4, 0) }
	p := fresh()
	sameVectors(t, "P8.2: example 4", passed(t, m, p, api.Item{Token: 1, Pos: 0, Slot: 2}), [][]int8{one})
	sameVectors(t, "P8.2: example 4", passed(t, m, p, api.Item{Token: 2, Pos: 1, Slot: 0, See: []int{2}}), [][]int8{two})
	first, second := api.Item{Token: 1, Pos: 0, Slot: 2}, api.Item{Token: 2, Pos: 1, Slot: 0, See: []int{2}}
	p = fresh()
	sameVectors(t, "P8.2: example 4, in one pass", passed(t, m, p, first, second), [][]int8{one, two})
	on := shelfOf(t, p)
	p = fresh()
	sameVectors(t, "P8.2: example 4, the other way round", passed(t, m, p, second, first), [][]int8{two, one})
	sameShelf(t, "P8.2: example 4, the other way round", shelfOf(t, p), on)
	sameShelf(t, "P8.2: example 4", on, shelf{{0, 0}: {{-90, 0}, {0, 90}}, {0, 1}: {{0, 0}, {0, 0}}, {0, 2}: {{90, 0}, {90, 0}}, {0, 3}: {{0, 0}, {0, 0}}})
	notPassed(t, m, p, api.ErrItem, api.Item{Token: 1, Pos: 0, Slot: 4})
	notPassed(t, m, p, api.ErrItem, api.Item{Token: 1, Pos: 4, Slot: 0})
	notPassed(t, m, p, api.ErrItem, api.Item{Token: 3, Pos: 0, Slot: 0})
	notPassed(t, m, p, api.ErrItem, api.Item{Token: 1, Pos: 0, Slot: 1}, api.Item{Token: 2, Pos: 1, Slot: 1})
	notPassed(t, m, p, api.ErrItem, api.Item{Token: 1, Pos: 0, Slot: 0, See: []int{7}})
}

// scene: a model, and a pool of three blocks of four slots, of which the middle one is free; something stands in all others.
func scene(t *testing.T, s *testaid.Source, c api.Config) (*model.Model, wordsOf, *pool.Pool) {
	t.Helper()
	m, words := drawnModel(t, s, c)
	p := poolFor(t, c, 3, 4, 0, 2)
	fill(t, s, p)
	return m, words, p
}

// edges: numbers just within bounds from 0 on, and some that are not.
func edges(bound int) (good, bad []int) {
	return []int{0, bound - 1}, []int{-1, bound, math.MinInt, math.MaxInt, -bound, bound + 1<<32}
}

func slotEdges() (good, bad []int) {
	return []int{0, 3, 8, 11}, []int{-1, -3, -4, -12, 4, 5, 7, 12, 15, 4096, 1 << 32, math.MinInt, math.MaxInt}
}

func TestPassOfEdges(t *testing.T) {
	s := testaid.Source(811)
	for _, c := range measures() {
		m, words, p := scene(t, &s, c)
		beside := api.Item{Slot: 9, See: []int{1, 10}}
		try := func(what string, good, bad []int, item func(n int) api.Item) {
			t.Helper()
			for _, n := range good {
				asWords(t, what, m, words, p, item(n))
				asWords(t, what, m, words, p, beside, item(n))
			}
			for _, n := range bad {
				notPassed(t, m, p, api.ErrItem, item(n))
				notPassed(t, m, p, api.ErrItem, beside, item(n))
				notPassed(t, m, p, api.ErrItem, item(n), beside)
			}
		}
		good, bad := edges(c.Vocab)
		try("a token", good, bad, func(n int) api.Item { return api.Item{Token: n, Slot: 2, See: []int{0, 8}} })
		good, bad = edges(c.Len)
		try("a position", good, bad, func(n int) api.Item { return api.Item{Token: 1, Pos: n, Slot: 2, See: []int{0, 8}} })
		good, bad = slotEdges()
		try("a slot", good, bad, func(n int) api.Item { return api.Item{Token: 1, Slot: n, See: []int{1, 10}} })
		try("a slot alone", good, bad, func(n int) api.Item { return api.Item{Token: 1, Slot: n} })
		good = append(good, 2)
		try("a first seen slot", good, bad, func(n int) api.Item { return api.Item{Token: 1, Slot: 2, See: []int{n, 1, 10}} })
		try("a middle seen slot", good, bad, func(n int) api.Item { return api.Item{Token: 1, Slot: 2, See: []int{1, n, 10}} })
		try("a last seen slot", good, bad, func(n int) api.Item { return api.Item{Token: 1, Slot: 2, See: []int{1, 10, n}} })
		try("a seen slot alone", good, bad, func(n int) api.Item { return api.Item{Token: 1, Slot: 2, See: []int{n}} })
	}
}

func TestPassOfOneSlotTwice(t *testing.T) {
	s := testaid.Source(812)
	for _, c := range measures() {
		m, words, p := scene(t, &s, c)
		a, b, other := api.Item{Token: 1, Slot: 3}, api.Item{Token: 0, Pos: c.Len - 1, Slot: 3, See: []int{8}}, api.Item{Token: 1, Slot: 8}
		notPassed(t, m, p, api.ErrItem, a, a)
		notPassed(t, m, p, api.ErrItem, a, b)
		notPassed(t, m, p, api.ErrItem, b, a)
		notPassed(t, m, p, api.ErrItem, a, other, b)
		notPassed(t, m, p, api.ErrItem, other, a, b)
		b.Slot = 2
		asWords(t, "two slots", m, words, p, a, other, b)
		// The same slot again in another pass is written over.
		asWords(t, "a slot again", m, words, p, a)
		a.Token = 0
		asWords(t, "a slot again", m, words, p, a)
	}
}

// A block that several hold may be used as well; one that all have dropped may not.
func TestPassFollowsTheCounts(t *testing.T) {
	s := testaid.Source(813)
	c := measures()[2]
	m, words, p := scene(t, &s, c)
	item := api.Item{Token: 1, Slot: 9, See: []int{1}}
	p.Hold(2)
	asWords(t, "a block that is held twice", m, words, p, item)
	p.Drop(2)
	asWords(t, "a block that is held once", m, words, p, item)
	p.Drop(2)
	notPassed(t, m, p, api.ErrItem, item)
	notPassed(t, m, p, api.ErrItem, api.Item{Token: 1, Slot: 1, See: []int{9}})
	p.Take()
	p.Take()
	asWords(t, "a block that was taken anew", m, words, p, item)
	asWords(t, "a block that was taken anew, seen", m, words, p, api.Item{Token: 1, Slot: 1, See: []int{9, 10, 4}})
}

func TestPassRefusesOtherPools(t *testing.T) {
	s := testaid.Source(814)
	good, bad := api.Item{Token: 1}, api.Item{Token: -1, Pos: -1, Slot: -1, See: []int{-1}}
	for _, c := range measures() {
		m, words := drawnModel(t, &s, c)
		width := c.KV * (c.Width / c.Heads)
		for layers := 1; layers <= api.MaxLayers; layers++ {
			for wide := 1; wide <= api.MaxWidth; wide++ {
				p := poolOf(t, layers, wide, 2, 2, 0)
				if layers == c.Layers && wide == width {
					notPassed(t, m, p, api.ErrItem, bad)
					notPassed(t, m, p, api.ErrItem, good, bad)
					asWords(t, "a pool that fits", m, words, p, good)
					continue
				}
				notPassed(t, m, p, api.ErrShape, good)
				notPassed(t, m, p, api.ErrShape, bad)
				notPassed(t, m, p, api.ErrShape)
				notPassed(t, nil, p, api.ErrArg, good)
			}
		}
		notPassed(t, m, nil, api.ErrArg)
		notPassed(t, m, nil, api.ErrArg, good)
		notPassed(t, m, nil, api.ErrArg, bad)
		notPassed(t, nil, poolFor(t, c, 2, 2, 0), api.ErrArg)
		notPassed(t, nil, poolFor(t, c, 2, 2, 0), api.ErrArg, good)
		notPassed(t, nil, poolFor(t, c, 2, 2, 0), api.ErrArg, bad)
	}
	notPassed(t, nil, nil, api.ErrArg)
	notPassed(t, nil, nil, api.ErrArg, bad)
}

func TestPassOfNoItems(t *testing.T) {
	s := testaid.Source(815)
	for _, c := range measures() {
		m, words, p := scene(t, &s, c)
		asWords(t, "no items", m, words, p)
		asWords(t, "no items", m, words, p, []api.Item{}...)
		asWords(t, "no items, no block in use", m, words, poolFor(t, c, 2, 2))
		notPassed(t, m, poolFor(t, c, 2, 2), api.ErrItem, api.Item{Token: 1})
	}
}

// What a See may hold, one thing after the other; each is held against the words, and against what it must be the same as.
func TestPassSees(t *testing.T) {
	s := testaid.Source(816)
	for _, c := range measures() {
		m, words := drawnModel(t, &s, c)
		last := c.Len - 1
		// seen: what the item in slot 2 answers that sees these slots, over a pool where the same things stand, beside items in the slots 1 and 9.
		seen := func(what string, see ...int) []int8 {
			t.Helper()
			p := poolFor(t, c, 3, 4, 0, 2)
			again := testaid.Source(8160)
			fill(t, &again, p)
			return asWords(t, what, m, words, p, api.Item{Token: 1, Pos: last, Slot: 1, See: []int{2, 8}}, api.Item{Token: 1, Pos: last / 2, Slot: 2, See: see}, api.Item{Pos: last, Slot: 9, See: []int{10}})[1]
		}
		alike := func(what string, a, b []int8) {
			t.Helper()
			sameVectors(t, "P8.2: "+what, [][]int8{a}, [][]int8{b})
		}
		nothing := seen("nothing seen")
		alike("its own slot", seen("its own slot", 2), nothing)
		alike("its own slot twice", seen("its own slot twice", 2, 2), nothing)
		some := seen("slots of others", 0, 8, 11)
		alike("a slot twice", seen("a slot twice", 0, 8, 0, 11, 11), some)
		alike("a slot twice and its own", seen("a slot twice and its own", 2, 11, 0, 8, 0, 2), some)
		alike("another order", seen("another order", 11, 0, 8), some)
		both := seen("an earlier item's and a later one's", 1, 9)
		alike("a later item's and an earlier one's", seen("a later item's and an earlier one's", 9, 1, 9), both)
		seen("an earlier item's", 1)
		seen("a later item's", 9)
		seen("all there is", 0, 1, 2, 3, 8, 9, 10, 11)
		seen("a long list", slices.Repeat([]int{3, 2, 9, 3}, 10000)...)
	}
}

// What others put in a slot is seen as it stands, wherever it comes from.
func TestPassSeesWhatOthersPut(t *testing.T) {
	w := tinyWeights()
	w.Layers[0].K.Data = []int8{-64, 0, 0, -64}
	m := made(t, w)
	p := poolOf(t, 1, 2, 1, 4, 0)
	// Of the token 1 q is (90, 0), its own key (-90, 0): the other key's score is greater by 19530, so its value alone counts, clamped.
	if e := p.Put(0, 3, []int8{127, 5}, []int8{-128, 64}); e != api.OK {
		t.Fatal(e)
	}
	// x is (256 - 127 times 64, 64 times 64), (-7872, 4096): the mean of squares is 39372800, its root 6274, r 6275: -80.2 and 41.7, rounded down.
	sameVectors(t, "P8.2: a slot that others put", passed(t, m, p, api.Item{Token: 1, Slot: 0, See: []int{3}}), [][]int8{{-81, 41}})
	k, v, _ := p.Get(0, 3)
	sameVectors(t, "P8.2: a slot that was only seen", [][]int8{k, v}, [][]int8{{127, 5}, {-128, 64}})
	// Once it is an item's own, what others put is gone ahead of anything that is seen.
	sameVectors(t, "P8.2: a slot that is written over", passed(t, m, p, api.Item{Token: 1, Slot: 0, See: []int{3}}, api.Item{Token: 1, Slot: 3}), [][]int8{{90, 0}, {90, 0}})
}

// As many items as there are slots in the greatest pool; one more has no slot left.
func TestPassOfManyItems(t *testing.T) {
	w := tinyWeights()
	m := made(t, w)
	p := poolOf(t, 1, 2, api.MaxBlocks, api.MaxBlock)
	for range api.MaxBlocks {
		p.Take()
	}
	var items []api.Item
	for slot := range api.MaxBlocks * api.MaxBlock {
		items = append(items, api.Item{Token: slot % 3, Pos: slot / 7 % 4, Slot: slot, See: []int{4095 - slot, slot / 2}})
	}
	for range 3 {
		asWords(t, "all slots", m, wordsOf{t, w}, p, items...)
	}
	for _, slot := range []int{0, 4095, 4096} {
		notPassed(t, m, p, api.ErrItem, append(slices.Clone(items), api.Item{Slot: slot})...)
	}
}

// drawnItems: some that may be, which see any slots that may be used.
func drawnItems(s *testaid.Source, c api.Config, free []int, n int) []api.Item {
	slots := shuffled(s, free)
	var items []api.Item
	for i := range min(n, len(slots)) {
		item := api.Item{Token: s.Below(c.Vocab), Pos: s.Below(c.Len), Slot: slots[i]}
		for range s.Below(8) {
			item.See = append(item.See, free[s.Below(len(free))])
		}
		items = append(items, item)
	}
	return items
}

func shuffled[T any](s *testaid.Source, list []T) []T {
	out := slices.Clone(list)
	for i := range out {
		j := s.Below(i + 1)
		out[i], out[j] = out[j], out[i]
	}
	return out
}

// Passes of any items over one pool, one behind the other: what each finds is what those ahead of it left.
func TestPassIsWhatTheWordsSay(t *testing.T) {
	s := testaid.Source(817)
	for _, c := range measures() {
		for range 3 {
			m, words := drawnModel(t, &s, c)
			blocks, size := 2+s.Below(6), 1+s.Below(8)
			p := poolFor(t, c, blocks, size, 0, blocks-1, s.Below(blocks))
			var usable []int
			for slot := range blocks * size {
				if p.Count(slot/size) > 0 {
					usable = append(usable, slot)
				}
			}
			if s.Below(2) == 0 {
				fill(t, &s, p)
			}
			for range 6 {
				asWords(t, "drawn items", m, words, p, drawnItems(&s, c, usable, 1+s.Below(12))...)
			}
		}
	}
}

func TestPassInAnotherOrder(t *testing.T) {
	s := testaid.Source(818)
	for _, c := range measures() {
		m, _ := drawnModel(t, &s, c)
		usable := []int{0, 1, 2, 3, 8, 9, 10, 11}
		for round := range 5 {
			fresh := func() *pool.Pool {
				p := poolFor(t, c, 3, 4, 0, 2)
				again := testaid.Source(8180 + round)
				fill(t, &again, p)
				return p
			}
			p, q := fresh(), fresh()
			items := drawnItems(&s, c, usable, 8)
			out := passed(t, m, p, items...)
			places := make([]int, len(items))
			for i := range places {
				places[i] = i
			}
			places = shuffled(&s, places)
			var moved []api.Item
			var want [][]int8
			for _, i := range places {
				item := items[i]
				item.See = shuffled(&s, item.See)
				moved, want = append(moved, item), append(want, out[i])
			}
			sameVectors(t, "what follows: items and See in another order", passed(t, m, q, moved...), want)
			sameShelf(t, "what follows: items and See in another order", shelfOf(t, q), shelfOf(t, p))
		}
	}
}
