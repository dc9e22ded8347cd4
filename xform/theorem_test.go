package xform_test

import (
	"slices"
	"testing"

	"augur/api"
	"augur/model"
	"augur/pool"
	"augur/testaid"
	"augur/xform"
)

// node: a token of a tree of texts. Its text is the way down to it.
type node struct {
	text []int
	// above: the places of the tokens ahead of it in its text.
	above []int
	slot  int
	pass  int
}

// drawnTrees: n tokens of some texts, of which some begin alike; the passes never fall along a way. A narrow one has long ways, with few side ways.
func drawnTrees(s *testaid.Source, c api.Config, slots []int, n, passes int, narrow bool) []node {
	slots = shuffled(s, slots)
	var nodes []node
	for i := range n {
		it := node{slot: slots[i], pass: s.Below(passes)}
		above := i - 1
		if !narrow || s.Below(4) == 0 {
			above = s.Below(i+1) - 1
		}
		if above >= 0 && len(nodes[above].text) < c.Len {
			up := nodes[above]
			it.text, it.above = slices.Clone(up.text), append(slices.Clone(up.above), above)
			it.pass = min(up.pass+s.Below(2), passes-1)
		}
		it.text = append(it.text, s.Below(c.Vocab))
		nodes = append(nodes, it)
	}
	return nodes
}

// item: a node for a pass; See may come in any order, with slots that count once.
func (it node) item(s *testaid.Source, nodes []node) api.Item {
	var see []int
	for _, up := range it.above {
		see = append(see, nodes[up].slot)
		if s.Below(5) == 0 {
			see = append(see, nodes[up].slot)
		}
	}
	if s.Below(3) == 0 {
		see = append(see, it.slot)
	}
	last := len(it.text) - 1
	return api.Item{Token: it.text[last], Pos: last, Slot: it.slot, See: shuffled(s, see)}
}

// runs the passes; each node must have what Full says of its text.
func asFull(t *testing.T, s *testaid.Source, m *model.Model, p *pool.Pool, nodes []node, passes int) {
	t.Helper()
	wants := make([]api.Point, len(nodes))
	for i, it := range nodes {
		points := fully(t, m, it.text)
		wants[i] = points[len(points)-1]
	}
	places := make([]int, len(nodes))
	for i := range places {
		places[i] = i
	}
	for pass := range passes {
		var items []api.Item
		var of []int
		for _, i := range shuffled(s, places) {
			if nodes[i].pass == pass {
				items, of = append(items, nodes[i].item(s, nodes)), append(of, i)
			}
		}
		for i, last := range passed(t, m, p, items...) {
			sameVectors(t, "the theorem: a last vector", [][]int8{last}, [][]int8{wants[of[i]].Hidden})
		}
	}
	for i, it := range nodes {
		for layer := range m.Config().Layers {
			k, v, e := p.Get(layer, it.slot)
			if e != api.OK {
				t.Fatal(e)
			}
			sameVectors(t, "the theorem: a slot's keys and values", [][]int8{k, v}, [][]int8{wants[i].K[layer], wants[i].V[layer]})
		}
	}
}

func upTo(n int) []int {
	list := make([]int, n)
	for i := range list {
		list[i] = i
	}
	return list
}

func TestTheCacheIsExact(t *testing.T) {
	s := testaid.Source(821)
	for _, c := range measures() {
		for round := range 8 {
			m, _ := drawnModel(t, &s, c)
			blocks, size := 3+s.Below(4), 4+s.Below(9)
			p := poolFor(t, c, blocks, size, upTo(blocks)...)
			fill(t, &s, p)
			passes := 1 + s.Below(7)
			n := 1 + s.Below(min(40, blocks*size))
			asFull(t, &s, m, p, drawnTrees(&s, c, upTo(blocks*size), n, passes, round%2 == 0), passes)
		}
	}
}

// A text of Len tokens: token by token, in pieces of any length, and at one time.
func TestATextInPieces(t *testing.T) {
	s := testaid.Source(822)
	for _, c := range measures() {
		m, _ := drawnModel(t, &s, c)
		tokens := drawnText(&s, c, c.Len)
		for _, piece := range []int{1, 2, 3, 7, c.Len - 1, c.Len} {
			if piece < 1 {
				continue
			}
			p := poolFor(t, c, 8, 8, upTo(8)...)
			slots := shuffled(&s, upTo(64))
			var nodes []node
			for i := range tokens {
				nodes = append(nodes, node{text: tokens[:i+1], above: upTo(i), slot: slots[i], pass: i / piece})
			}
			asFull(t, &s, m, p, nodes, c.Len/piece+1)
		}
	}
}

// What a refused guess left in its slot is nobody's: another token in the same slot is as Full says.
func TestSlotsAreUsedAgain(t *testing.T) {
	s := testaid.Source(823)
	c := measures()[2]
	m, _ := drawnModel(t, &s, c)
	p := poolFor(t, c, 2, 8, 0, 1)
	tokens := drawnText(&s, c, 12)
	all := fully(t, m, tokens)
	for i, token := range tokens {
		see := upTo(i)
		for guess := range c.Vocab {
			if out := passed(t, m, p, api.Item{Token: guess, Pos: i, Slot: i, See: see}); guess == token {
				sameVectors(t, "the theorem: a guess that holds", out, [][]int8{all[i].Hidden})
			}
		}
		sameVectors(t, "the theorem: a slot used again", passed(t, m, p, api.Item{Token: token, Pos: i, Slot: i, See: see}), [][]int8{all[i].Hidden})
	}
}

// R6: two pools know nothing of one another, and no call leaves anything in the model.
func TestPoolsAreApart(t *testing.T) {
	s := testaid.Source(824)
	c := measures()[3]
	m, words := drawnModel(t, &s, c)
	other, _ := drawnModel(t, &s, c)
	p, q := poolFor(t, c, 2, 8, 0, 1), poolFor(t, c, 2, 8, 0, 1)
	for range 20 {
		items := drawnItems(&s, c, upTo(16), 5)
		was := shelfOf(t, q)
		asWords(t, "one of two pools", m, words, p, items...)
		sameShelf(t, "R6: the other pool", shelfOf(t, q), was)
		passed(t, other, q, drawnItems(&s, c, upTo(16), 5)...)
		if _, e := xform.Full(other, drawnText(&s, c, 5)); e != api.OK {
			t.Fatal(e)
		}
	}
}
