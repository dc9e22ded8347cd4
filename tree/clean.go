package tree

import (
	"cmp"
	"slices"

	"augur/api"
)

// none stands for the node of a raw node that is not good.
const none = -1

// gather: the root, and a node for each way of a good raw node, in the order in which the first of each way stands in raw.
func gather(root int, raw []api.RawNode, vocab int) []api.Node {
	nodes := []api.Node{{Parent: -1, Token: root}}
	// A way is told by its parent's node and its last token, as each way has one node alone.
	known := map[api.RawNode]int{}
	// at[i+1] is the node of raw node i: so the parent -1 leads to the root's without being asked for.
	at := []int{0}
	for i, r := range raw {
		up := none
		if r.Parent >= -1 && r.Parent < i && r.Token >= 1 && r.Token < vocab {
			up = at[r.Parent+1]
		}
		if up == none {
			at = append(at, none)
			continue
		}
		key := api.RawNode{Parent: up, Token: r.Token}
		place, seen := known[key]
		if !seen {
			place = len(nodes)
			known[key] = place
			nodes = append(nodes, api.Node{Parent: up, Token: r.Token, Depth: nodes[up].Depth + 1})
		}
		at = append(at, place)
	}
	return nodes
}

// byDepth: the same nodes ordered by depth, those of one depth in the order that they had.
func byDepth(nodes []api.Node) []api.Node {
	order := make([]int, len(nodes))
	for place := range order {
		order[place] = place
	}
	slices.SortStableFunc(order, func(a, b int) int { return cmp.Compare(nodes[a].Depth, nodes[b].Depth) })
	moved := make([]int, len(nodes))
	for place, was := range order {
		moved[was] = place
	}
	out := make([]api.Node, len(nodes))
	for place, was := range order {
		out[place] = nodes[was]
		if place > 0 {
			out[place].Parent = moved[nodes[was].Parent]
		}
	}
	return out
}
