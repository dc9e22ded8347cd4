package guide

import "augur/api"

// goodStates: which states are good, by the state: those that accept, then those from which a token leads to one of these, and so on.
func (g *Guide) goodStates() []bool {
	good := make([]bool, g.automaton.States())
	var found []int
	for state := range good {
		if g.automaton.Accepts(state) {
			good[state] = true
			found = append(found, state)
		}
	}
	before := g.statesBefore()
	for i := 0; i < len(found); i++ {
		for _, state := range before[found[i]] {
			if !good[state] {
				good[state] = true
				found = append(found, state)
			}
		}
	}
	return good
}

// statesBefore: of each state those from which a token leads to it, once for each such token.
func (g *Guide) statesBefore() [][]int {
	before := make([][]int, g.automaton.States())
	for state := range before {
		for token := api.End + 1; token < len(g.pieces); token++ {
			if next := g.lead(state, token); next != nowhere {
				before[next] = append(before[next], state)
			}
		}
	}
	return before
}
