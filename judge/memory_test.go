package judge_test

import (
	"slices"
	"testing"

	"augur/api"
	"augur/judge"
	"augur/testaid"
)

var (
	nodeMark = api.Node{Parent: 77, Token: 78, Depth: 79}
	moveMark = api.Move{From: 77, To: 78}
)

// handed: all that the three calls are handed, each list with spare room.
type handed struct {
	nodes                  []api.Node
	chosen, way, slots, to []int
	next, most             int
}

// someHanded: a drawn tree with choices and a way, slots, and numbers to go to.
func someHanded(s *testaid.Source) handed {
	nodes := someTree(s)
	h := handed{nodes: nodes, chosen: someChoices(s, nodes), way: someWay(s, nodes), next: s.Below(4), most: 1 + s.Below(9)}
	for i := range nodes {
		h.slots = append(h.slots, s.Below(40))
		h.to = append(h.to, 40-i)
	}
	return handed{
		testaid.Roomy(h.nodes, nodeMark), testaid.Roomy(h.chosen, 77), testaid.Roomy(h.way, 77),
		testaid.Roomy(h.slots, 77), testaid.Roomy(h.to, 77), h.next, h.most,
	}
}

// lists: those of numbers.
func (h handed) lists() [][]int { return [][]int{h.chosen, h.way, h.slots, h.to} }

// guard: the answered function tells whether all that is handed in is as it was, and the room behind it.
func (h handed) guard(t *testing.T, what string) func() {
	kept := []func() bool{testaid.Guard(h.nodes)}
	for _, list := range h.lists() {
		kept = append(kept, testaid.Guard(list))
	}
	return func() {
		t.Helper()
		for i, is := range kept {
			if !is() {
				t.Fatalf("P16.4: %s: number %d of tree, choices, way, slots, to was changed, or the room behind it", what, i)
			}
		}
	}
}

// answers: what the three calls answer.
type answers struct {
	way    []int
	tokens []int
	moves  []api.Move
}

// ask calls all three.
func (h handed) ask() answers {
	way, _, _ := judge.Walk(h.nodes, h.chosen)
	tokens, _, _ := judge.Take(h.nodes, h.way, h.next, h.most)
	moves, _ := judge.Plan(h.way, h.slots, h.to)
	return answers{way, tokens, moves}
}

func (a answers) clone() answers {
	return answers{slices.Clone(a.way), slices.Clone(a.tokens), slices.Clone(a.moves)}
}

func (a answers) same(b answers) bool {
	return slices.Equal(a.way, b.way) && slices.Equal(a.tokens, b.tokens) && slices.Equal(a.moves, b.moves)
}

// asWords: all three calls answer what the second writings say.
func (h handed) asWords(t *testing.T) {
	t.Helper()
	walksAsWords(t, h.nodes, h.chosen)
	takesAsWords(t, h.nodes, h.way, h.next, h.most)
	plansAsWords(t, h.way, h.slots, h.to)
}

// What is handed in stays, and the room behind it; in a call that is refused too.
func TestArgumentsStay(t *testing.T) {
	s := testaid.Source(209)
	for range 1000 {
		h := someHanded(&s)
		check := h.guard(t, "an answer")
		h.asWords(t)
		check()
		check = h.guard(t, "an error")
		walksNot(t, h.nodes, h.chosen[1:], api.ErrPath)
		walksNot(t, h.nodes[:0], h.chosen, api.ErrTree)
		takesNot(t, h.nodes, h.way, h.next, 0, api.ErrArg)
		takesNot(t, h.nodes, h.way[1:], h.next, h.most, api.ErrPath)
		takesNot(t, h.nodes[:0], h.way, h.next, h.most, api.ErrTree)
		plansNot(t, h.way, h.slots[:0], h.to)
		plansNot(t, h.way, h.slots, h.to[:len(h.way)-1])
		check()
	}
}

// One list may be handed in for several.
func TestOneListForSeveral(t *testing.T) {
	list := testaid.Roomy([]int{2, 0, 1}, 77)
	is := testaid.Guard(list)
	plans(t, list, list, list, 1, 2, 2, 0, 0, 1)
	chain := testaid.Nodes(-1, 9, 0, 0, 2, 1, 1, 5, 2)
	walks(t, chain, list, []int{0, 1}, 0)
	if !is() {
		t.Error("P16.4: a list that was handed in for several was changed")
	}
}

// What was handed in may be written over behind the call.
func TestNothingIsKept(t *testing.T) {
	s := testaid.Source(210)
	for range 1000 {
		h := someHanded(&s)
		got := h.ask()
		want := got.clone()
		testaid.Overwrite(h.nodes, nodeMark)
		for _, list := range h.lists() {
			testaid.Overwrite(list, 99)
		}
		if !got.same(want) {
			t.Fatalf("P16.4: answers changed with what was handed in: %v, not %v", got, want)
		}
		someHanded(&s).asWords(t)
	}
}

// An answer written into or appended to changes no other answer, no later one, and nothing that was handed in.
func TestAnswersAreApart(t *testing.T) {
	s := testaid.Source(211)
	for range 1000 {
		h := someHanded(&s)
		once, again := h.ask(), h.ask()
		want, check := again.clone(), h.guard(t, "writing over an answer")
		_, _, _ = append(once.way, 99), append(once.tokens, 99), append(once.moves, moveMark)
		testaid.Overwrite(once.way, 99)
		testaid.Overwrite(once.tokens, 99)
		testaid.Overwrite(once.moves, moveMark)
		if !again.same(want) {
			t.Fatalf("P16.4: writing over one answer changed another: %v, not %v", again, want)
		}
		check()
		h.asWords(t)
	}
}

// A list's own numbers are all that is looked at: those behind its end are not.
func TestRoomIsNotLookedAt(t *testing.T) {
	nodes, chosen := five(), []int{3, 4, 9, 6, 8}
	walksNot(t, nodes, chosen[:4], api.ErrPath)
	walksNot(t, nodes[:4], chosen, api.ErrPath)
	walks(t, nodes[:4], chosen[:4], []int{0, 1, 3}, 6)
	walks(t, nodes[:3], chosen[:3], []int{0, 1}, 4)
	walks(t, nodes[:1], chosen[:1], []int{0}, 3)
	way := []int{0, 1, 3, 4}
	takes(t, nodes, way[:2], 8, 9, []int{3, 8}, false)
	takes(t, nodes[:2], way[:2], 8, 9, []int{3, 8}, false)
	takesNot(t, nodes[:4], way, 8, 9, api.ErrPath)
	takesNot(t, nodes, way[:0], 8, 9, api.ErrPath)
	slots, to := []int{10, 11, 12, 13, 14}, []int{20, 21, 22, 22}
	plans(t, way[:3], slots, to, 10, 20, 11, 21, 13, 22)
	plansNot(t, way[:3], slots[:3], to)
	plansNot(t, way[:3], slots, to[:2])
	plansNot(t, way, slots, to)
}

// What was asked before is not seen.
func TestOrderIsNotSeen(t *testing.T) {
	s := testaid.Source(212)
	for range 300 {
		h, other := someHanded(&s), someHanded(&s)
		h.asWords(t)
		other.asWords(t)
		walksNot(t, nil, h.chosen, api.ErrTree)
		takesNot(t, h.nodes, nil, 1, 1, api.ErrPath)
		plansNot(t, nil, h.slots, h.to)
		h.asWords(t)
	}
}
