package judge_test

import (
	"math"
	"slices"
	"testing"

	"augur/api"
	"augur/judge"
	"augur/testaid"
	"augur/tree"
)

// The chapter's words, said a second time: ways are found by looking at all that a tree has, and asked for what the words say of them.

// allWays: of each node, from the root down to it. (A tree has no others.)
func allWays(t []api.Node) [][]int {
	ways := [][]int{{0}}
	for place := 1; place < len(t); place++ {
		ways = append(ways, append(slices.Clone(ways[t[place].Parent]), place))
	}
	return ways
}

// hasWay: is the list one of the tree's ways?
func hasWay(t []api.Node, list []int) bool {
	return slices.ContainsFunc(allWays(t), func(way []int) bool { return slices.Equal(way, list) })
}

// confirmed: does each node of the way but the root bear the token that is chosen behind the one ahead of it?
func confirmed(t []api.Node, chosen, way []int) bool {
	for i := 1; i < len(way); i++ {
		if t[way[i]].Token != chosen[way[i-1]] {
			return false
		}
	}
	return true
}

// goesOn: has the node a child with the token that is chosen behind it?
func goesOn(t []api.Node, chosen []int, place int) bool {
	return slices.ContainsFunc(t, func(n api.Node) bool { return n.Parent == place && n.Token == chosen[place] })
}

// judgedWays: those that the words call so, of which there is to be just one.
func judgedWays(t []api.Node, chosen []int) [][]int {
	return slices.DeleteFunc(allWays(t), func(way []int) bool {
		return !confirmed(t, chosen, way) || goesOn(t, chosen, way[len(way)-1])
	})
}

// taken: what Take is to answer, if there is no error.
func taken(t []api.Node, way []int, next, most int) (tokens []int, over bool) {
	var all []int
	for _, place := range way {
		if place != 0 {
			all = append(all, t[place].Token)
		}
	}
	all = append(all, next)
	tokens = all[:min(most, len(all))]
	if end := slices.Index(tokens, 0); end >= 0 {
		tokens = tokens[:end+1]
	}
	return tokens, tokens[len(tokens)-1] == 0 || len(tokens) == most
}

// mayPlan: does none of Plan's errors apply?
func mayPlan(way, slots, to []int) bool {
	if len(way) < 1 || len(to) < len(way) {
		return false
	}
	for i, place := range way {
		if place < 0 || place > len(slots)-1 || slices.Contains(to[:i], to[i]) {
			return false
		}
	}
	return true
}

// planned: what Plan is to answer, if there is no error.
func planned(way, slots, to []int) []api.Move {
	var all []api.Move
	for i, place := range way {
		all = append(all, api.Move{From: slots[place], To: to[i]})
	}
	return slices.DeleteFunc(all, func(m api.Move) bool { return m.From == m.To })
}

// five: the tree of the chapter's examples.
func five() []api.Node { return testaid.Nodes(-1, 7, 0, 0, 3, 1, 0, 5, 1, 1, 4, 2, 3, 6, 3) }

// noTrees: lists that are none, each for another reason.
func noTrees() [][]api.Node {
	return [][]api.Node{
		nil, {},
		testaid.Nodes(0, 7, 0), testaid.Nodes(-2, 7, 0), testaid.Nodes(-1, 7, 1), // no root
		testaid.Nodes(-1, 7, 0, -1, 3, 0),                                                                                       // two roots
		testaid.Nodes(-1, 7, 0, 0, 3, 1, 0, 3, 1),                                                                               // two alike behind one parent
		testaid.Nodes(-1, 7, 0, 0, 0, 1), testaid.Nodes(-1, 7, 0, 0, 3, 1, 1, 0, 2, 2, 4, 3), testaid.Nodes(-1, 7, 0, 0, -3, 1), // tokens
		testaid.Nodes(-1, 7, 0, 0, 3, 2), testaid.Nodes(-1, 7, 0, 0, 3, 1, 1, 4, 2, 0, 5, 1), // depths
		testaid.Nodes(-1, 7, 0, 1, 3, 1), testaid.Nodes(-1, 7, 0, 2, 3, 2, 0, 4, 1), // parents that are not ahead
		testaid.Nodes(-1, 7, 0, math.MaxInt, 3, 1), testaid.Nodes(-1, 7, 0, math.MinInt, 3, 1), testaid.Nodes(-1, 7, 0, 0, 3, 1, 0, 5, 1, 1, 4, 2, 9, 6, 3), // parents that are nowhere
		testaid.Chain(33), testaid.Star(33), testaid.Chain(64), testaid.Chain(1000), // too many nodes
	}
}

// anyNumbers: small and great ones, below 0 and above.
func anyNumbers() []int {
	return []int{math.MinInt, math.MinInt + 1, -1 << 32, -7, -3, -1, 0, 1, 2, 7, 64, 1 << 32, 1<<32 + 3, math.MaxInt - 1, math.MaxInt}
}

// someTree: a drawn one, of few tokens, so that one token stands behind many nodes.
func someTree(s *testaid.Source) []api.Node {
	raw := make([]api.RawNode, s.Below(60))
	for i := range raw {
		raw[i] = api.RawNode{Parent: s.Below(i+1) - 1, Token: 1 + s.Below(4)}
		if s.Below(2) == 0 {
			raw[i].Parent = i - 1 - s.Below(min(3, i+1))
		}
	}
	some, _ := tree.Clean(s.Below(9)-4, raw, 5)
	return some
}

// someChoices: drawn ones, of which many are tokens of the node's children.
func someChoices(s *testaid.Source, t []api.Node) []int {
	odd := anyNumbers()
	chosen := make([]int, len(t))
	for place := range chosen {
		chosen[place] = s.Below(6)
	}
	for _, n := range t[1:] {
		if s.Below(3) > 0 {
			chosen[n.Parent] = n.Token
		}
	}
	if s.Below(2) == 0 {
		chosen[s.Below(len(t))] = odd[s.Below(len(odd))]
	}
	return chosen
}

// someWay: a drawn one of the tree's.
func someWay(s *testaid.Source, t []api.Node) []int {
	ways := allWays(t)
	return ways[s.Below(len(ways))]
}

// shortTrees: all trees of at most so many nodes with the tokens 1 and 2.
func shortTrees(most int) [][]api.Node {
	all := [][]api.Node{testaid.Nodes(-1, 1, 0)}
	for i := 0; i < len(all); i++ {
		some := all[i]
		if len(some) == most {
			continue
		}
		for parent, n := range some {
			for token := 1; token <= 2; token++ {
				more := append(slices.Clone(some), api.Node{Parent: parent, Token: token, Depth: n.Depth + 1})
				if tree.Check(more) == api.OK {
					all = append(all, more)
				}
			}
		}
	}
	return all
}

// walks: Walk answers just this.
func walks(t *testing.T, nodes []api.Node, chosen, want []int, wantNext int) {
	t.Helper()
	if way, next, e := judge.Walk(nodes, chosen); e != api.OK || !slices.Equal(way, want) || next != wantNext {
		t.Errorf("P16.1: Walk(%v, %v) = %v, %d, %d, want %v, %d", nodes, chosen, way, next, e, want, wantNext)
	}
}

// walksAsWords: Walk answers the one judged way.
func walksAsWords(t *testing.T, nodes []api.Node, chosen []int) []int {
	t.Helper()
	ways := judgedWays(nodes, chosen)
	if len(ways) != 1 {
		t.Fatalf("P16.1: %v, %v: the judged ways are %v", nodes, chosen, ways)
	}
	walks(t, nodes, chosen, ways[0], chosen[ways[0][len(ways[0])-1]])
	return ways[0]
}

// walksNot: Walk answers this error, and nothing beside it.
func walksNot(t *testing.T, nodes []api.Node, chosen []int, want api.Errno) {
	t.Helper()
	if way, next, e := judge.Walk(nodes, chosen); e != want || len(way) != 0 || next != 0 {
		t.Errorf("P16.1: Walk of %d nodes, %d choices = %v, %d, %d, want the error %d", len(nodes), len(chosen), way, next, e, want)
	}
}

// takes: Take answers just this.
func takes(t *testing.T, nodes []api.Node, way []int, next, most int, want []int, wantOver bool) {
	t.Helper()
	if tokens, over, e := judge.Take(nodes, way, next, most); e != api.OK || !slices.Equal(tokens, want) || over != wantOver {
		t.Errorf("P16.2: Take(%v, %v, %d, %d) = %v, %v, %d, want %v, %v", nodes, way, next, most, tokens, over, e, want, wantOver)
	}
}

// takesAsWords: Take answers what the second writing says of a way of the tree.
func takesAsWords(t *testing.T, nodes []api.Node, way []int, next, most int) {
	t.Helper()
	want, over := taken(nodes, way, next, most)
	takes(t, nodes, way, next, most, want, over)
}

// takesNot: Take answers this error, and nothing beside it.
func takesNot(t *testing.T, nodes []api.Node, way []int, next, most int, want api.Errno) {
	t.Helper()
	if tokens, over, e := judge.Take(nodes, way, next, most); e != want || len(tokens) != 0 || over {
		t.Errorf("P16.2: Take(%v, .., %d, %d) of a list of %d = %v, %v, %d, want the error %d", nodes, next, most, len(way), tokens, over, e, want)
	}
}

// plans: Plan answers just these moves, given as pairs of numbers.
func plans(t *testing.T, way, slots, to []int, pairs ...int) {
	t.Helper()
	var want []api.Move
	for i := 0; i < len(pairs); i += 2 {
		want = append(want, api.Move{From: pairs[i], To: pairs[i+1]})
	}
	if moves, e := judge.Plan(way, slots, to); e != api.OK || !slices.Equal(moves, want) {
		t.Errorf("P16.3: Plan(%v, %v, %v) = %v, %d, want %v", way, slots, to, moves, e, want)
	}
}

// plansNot: Plan answers ErrPath, and nothing beside it.
func plansNot(t *testing.T, way, slots, to []int) {
	t.Helper()
	if moves, e := judge.Plan(way, slots, to); e != api.ErrPath || len(moves) != 0 {
		t.Errorf("P16.3: Plan of %d places, %d slots, %d numbers = %v, %d", len(way), len(slots), len(to), moves, e)
	}
}

// plansAsWords: Plan answers what the second writing says; was it an answer?
func plansAsWords(t *testing.T, way, slots, to []int) bool {
	t.Helper()
	if !mayPlan(way, slots, to) {
		plansNot(t, way, slots, to)
		return false
	}
	if moves, e := judge.Plan(way, slots, to); e != api.OK || !slices.Equal(moves, planned(way, slots, to)) {
		t.Errorf("P16.3: Plan(%v, %v, %v) = %v, %d, want %v", way, slots, to, moves, e, planned(way, slots, to))
	}
	return true
}
