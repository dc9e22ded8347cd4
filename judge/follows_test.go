package judge_test

import (
	"slices"
	"testing"

	"augur/api"
	"augur/judge"
	"augur/pool"
	"augur/testaid"
	"augur/tree"
)

// Each way on which each node bears the token that is chosen behind the one ahead of it is the judged way's beginning, and each beginning is such a one.
func TestJudgedWayIsTheLongest(t *testing.T) {
	s := testaid.Source(204)
	for range 5000 {
		nodes := someTree(&s)
		chosen := someChoices(&s, nodes)
		judged, _, e := judge.Walk(nodes, chosen)
		if e != api.OK {
			t.Fatalf("P16.1: Walk(%v, %v) answered the error %d", nodes, chosen, e)
		}
		for _, way := range allWays(nodes) {
			begins := len(way) <= len(judged) && slices.Equal(way, judged[:len(way)])
			if confirmed(nodes, chosen, way) != begins {
				t.Fatalf("what follows: %v, %v: the judged way is %v, and there is %v", nodes, chosen, judged, way)
			}
		}
	}
}

// speaker gives a token for each text: it hangs on the whole of it. One in so many is End.
type speaker struct {
	seed uint64
	rare int
}

func (f speaker) token(text []int) int {
	s := testaid.Source(f.seed)
	for _, token := range text {
		s = testaid.Source(s.Next() + uint64(token)*1000003)
	}
	s.Next()
	if s.Below(f.rare) == 0 {
		return 0
	}
	return 1 + s.Below(3)
}

// oneAtATime: the tokens that come behind a text, each joining it, up to an End, and so many at most.
func (f speaker) oneAtATime(text []int, most int) []int {
	known := slices.Clone(text)
	for range most {
		token := f.token(known)
		known = append(known, token)
		if token == 0 {
			break
		}
	}
	return known[len(text):]
}

// guesses: a drawn tree behind the text, in which many tokens are those that the speaker gives.
func (f speaker) guesses(s *testaid.Source, text []int) []api.Node {
	raw := make([]api.RawNode, s.Below(50))
	ways := make([][]int, len(raw))
	for i := range raw {
		parent := s.Below(i+1) - 1
		way := text
		if parent >= 0 {
			way = ways[parent]
		}
		raw[i] = api.RawNode{Parent: parent, Token: 1 + s.Below(3)}
		if s.Below(2) == 0 {
			raw[i].Token = max(1, f.token(way))
		}
		ways[i] = append(slices.Clone(way), raw[i].Token)
	}
	nodes, _ := tree.Clean(text[len(text)-1], raw, 4)
	return nodes
}

// choices: behind each node what the speaker gives for the text with the tokens of the node's way behind it.
func (f speaker) choices(nodes []api.Node, text []int) []int {
	var chosen []int
	for _, way := range allWays(nodes) {
		known := slices.Clone(text)
		for _, place := range way[1:] {
			known = append(known, nodes[place].Token)
		}
		chosen = append(chosen, f.token(known))
	}
	return chosen
}

// guessed: how many nodes, the root aside, the longest way has whose tokens are those that come one at a time.
func guessed(nodes []api.Node, tokens []int) int {
	most := 0
	for _, way := range allWays(nodes) {
		right := len(way)-1 <= len(tokens)
		for i, place := range way[1:] {
			right = right && nodes[place].Token == tokens[i]
		}
		if right {
			most = max(most, len(way)-1)
		}
	}
	return most
}

// judgedAsSpoken: Walk and Take of a guessed tree tell the tokens that come one at a time, as many as the chapter says.
func judgedAsSpoken(t *testing.T, f speaker, text []int, nodes []api.Node, most int) (k int, ended bool) {
	t.Helper()
	way, next, e := judge.Walk(nodes, f.choices(nodes, text))
	if e != api.OK {
		t.Fatalf("P16.1: Walk(%v, ..) answered the error %d", nodes, e)
	}
	tokens, over, e := judge.Take(nodes, way, next, most)
	if e != api.OK {
		t.Fatalf("P16.2: Take(%v, %v, ..) answered the error %d", nodes, way, e)
	}
	k = len(way) - 1
	if k != guessed(nodes, f.oneAtATime(text, 40)) {
		t.Fatalf("what follows: %v: the judged way is %v, and %v comes", nodes, way, f.oneAtATime(text, 40))
	}
	want := f.oneAtATime(text, min(k+1, most))
	ended = want[len(want)-1] == 0
	if !slices.Equal(tokens, want) || over != (ended || len(want) == most) {
		t.Fatalf("what follows: Take(%v, %v, %d, %d) = %v, %v, and one at a time come %v", nodes, way, next, most, tokens, over, want)
	}
	return k, ended
}

func TestTokensComeAsOneAtATime(t *testing.T) {
	s := testaid.Source(205)
	deep, ends := 0, 0
	for range 5000 {
		f := speaker{seed: s.Next(), rare: 3 + s.Below(30)}
		text := []int{1 + s.Below(3), s.Below(4), s.Below(9)}
		k, ended := judgedAsSpoken(t, f, text, f.guesses(&s, text), 1+s.Below(9))
		if k > 3 {
			deep++
		}
		if ended {
			ends++
		}
	}
	if deep < 500 || ends < 200 {
		t.Errorf("only %d deep ways and %d ends", deep, ends)
	}
}

// A whole text, tree by tree, is the text that comes one token at a time, whatever is guessed.
func TestWholeTexts(t *testing.T) {
	s := testaid.Source(206)
	for range 500 {
		f := speaker{seed: s.Next(), rare: 20}
		prompt := []int{1 + s.Below(3)}
		text, over := slices.Clone(prompt), false
		for !over {
			nodes := f.guesses(&s, text)
			way, next, _ := judge.Walk(nodes, f.choices(nodes, text))
			var tokens []int
			tokens, over, _ = judge.Take(nodes, way, next, len(prompt)+30-len(text))
			if len(tokens) == 0 {
				t.Fatalf("P16.2: Take(%v, %v, %d, ..) brings nothing", nodes, way, next)
			}
			text = append(text, tokens...)
		}
		if want := f.oneAtATime(prompt, 30); !slices.Equal(text[1:], want) {
			t.Fatalf("what follows: the text is %v, and one at a time come %v", text[1:], want)
		}
	}
}

// The next tokens as a chain, the longest there may be: all of them stand, and one more.
func TestRightChains(t *testing.T) {
	for seed := range uint64(200) {
		f := speaker{seed: seed, rare: 1 << 40}
		text := []int{2, 1}
		next := f.oneAtATime(text, 32)
		nodes := []api.Node{{Parent: -1, Token: 1}}
		for i, token := range next[:31] {
			nodes = append(nodes, api.Node{Parent: i, Token: token, Depth: i + 1})
		}
		for n := 1; n <= 32; n++ {
			for _, most := range []int{1, n - 1, n, n + 1, 99} {
				if most < 1 {
					continue
				}
				if k, _ := judgedAsSpoken(t, f, text, nodes[:n], most); k != n-1 {
					t.Fatalf("what follows: of a chain of %d right nodes %d stand", n, k)
				}
			}
		}
	}
}

// All moves at one time bring what each slot of the way had to where it belongs; nothing else changes. Slots and numbers to go to are any.
func TestPlanBringsAll(t *testing.T) {
	s := testaid.Source(207)
	for range 5000 {
		slots, way, to := make([]int, 1+s.Below(20)), []int(nil), []int(nil)
		for i := range slots {
			slots[i] = s.Below(24) - 4
		}
		for range 1 + s.Below(10) {
			way = append(way, s.Below(len(slots)))
			for {
				if x := s.Below(24) - 4; !slices.Contains(to, x) {
					to = append(to, x)
					break
				}
			}
		}
		moves, e := judge.Plan(way, slots, to)
		if e != api.OK {
			t.Fatalf("P16.3: Plan(%v, %v, %v) answered the error %d", way, slots, to, e)
		}
		now := map[int]int{} // each has its own number ahead of the moves
		for x := -4; x < 20; x++ {
			now[x] = x
		}
		for _, m := range moves {
			now[m.To] = m.From
		}
		for x := -4; x < 20; x++ {
			want := x
			if i := slices.Index(to, x); i >= 0 {
				want = slots[way[i]]
			}
			if now[x] != want {
				t.Fatalf("what follows: Plan(%v, %v, %v) = %v: %d has what %d had, not %d", way, slots, to, moves, x, now[x], want)
			}
		}
	}
}

// shelf: a pool all of whose slots are in use, each with numbers of its own.
func shelf(t *testing.T, blocks, size int) *pool.Pool {
	t.Helper()
	p, e := pool.New(1, 1, blocks, size)
	if e != api.OK || pool.NewTable(p).Grow(blocks*size) != api.OK {
		t.Fatal("no pool")
	}
	for slot := range blocks * size {
		if p.Put(0, slot, []int8{int8(slot)}, []int8{int8(-slot)}) != api.OK {
			t.Fatal("no slot")
		}
	}
	return p
}

// What Plan answers pool.Move does: the slots of a judged way come to follow one another.
func TestPlanOverAPool(t *testing.T) {
	s := testaid.Source(208)
	moved := 0
	for range 2000 {
		nodes := someTree(&s)
		way := someWay(&s, nodes)
		p := shelf(t, 16, 4)
		slots := make([]int, 64)
		for i := range slots {
			slots[i] = i
		}
		for i := range slots {
			j := s.Below(i + 1)
			slots[i], slots[j] = slots[j], slots[i]
		}
		slots = slots[:len(nodes)]
		// As an engine does it: the way's nodes belong where the tree's first ones stand.
		moves, e := judge.Plan(way, slots, slots)
		if e != api.OK || p.Move(moves...) != api.OK {
			t.Fatalf("P16.3: Plan(%v, %v, %v) = %v, %d, which can't be done", way, slots, slots, moves, e)
		}
		for i, place := range way {
			if k, v, _ := p.Get(0, slots[i]); k[0] != int8(slots[place]) || v[0] != int8(-slots[place]) {
				t.Fatalf("what follows: behind %v the slot %d has %v, %v, not those of %d", moves, slots[i], k, v, slots[place])
			}
		}
		if len(moves) > 2 {
			moved++
		}
	}
	if moved < 200 {
		t.Errorf("only %d plans of several moves", moved)
	}
}
