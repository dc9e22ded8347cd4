package draft

import (
	"slices"

	"augur/api"
	"augur/heads"
	"augur/model"
	"augur/xform"
)

// root: its place, as its children name it.
const root = -1

// Propose: what a model would go on with behind some tokens, as a raw tree: by depth so many of the best.
func Propose(m *model.Model, tokens []int, widths ...int) ([]api.RawNode, api.Errno) {
	if m == nil || !areWidths(widths) {
		return nil, api.ErrArg
	}
	if len(tokens) == 0 {
		return nil, api.ErrEmpty
	}
	// Those ahead of the window are looked at too.
	if !areTokens(tokens, m.Config().Vocab) {
		return nil, api.ErrToken
	}
	return grow(m, tokens, widths)
}

// areWidths: may each of them be?
func areWidths(widths []int) bool {
	for _, width := range widths {
		if width < 0 {
			return false
		}
	}
	return true
}

// areTokens: is each of them one of a vocabulary of so many?
func areTokens(tokens []int, vocab int) bool {
	for _, token := range tokens {
		if token < 0 || token >= vocab {
			return false
		}
	}
	return true
}

// grow: the raw tree behind tokens that may be, depth by depth.
func grow(m *model.Model, tokens, widths []int) ([]api.RawNode, api.Errno) {
	var raw []api.RawNode
	// Cut ahead of all else: a long text would be copied for each node.
	seen := window(m, tokens)
	// The nodes of a depth stand side by side: from first up to end, end not among them.
	first, end := root, root+1
	for _, width := range widths {
		for parent := first; parent < end; parent++ {
			children, e := best(m, textOf(seen, raw, parent), min(width, api.MaxRaw-len(raw)))
			if e != api.OK {
				return nil, e
			}
			for _, token := range children {
				raw = append(raw, api.RawNode{Parent: parent, Token: token})
			}
		}
		first, end = end, len(raw)
	}
	return raw, api.OK
}

// window: the last tokens of a text, as many as a model takes.
func window(m *model.Model, text []int) []int {
	return text[max(0, len(text)-m.Config().Len):]
}

// textOf: the tokens and, behind them, the way of the node at a place.
func textOf(tokens []int, raw []api.RawNode, place int) []int {
	var way []int
	for ; place != root; place = raw[place].Parent {
		way = append(way, raw[place].Token)
	}
	slices.Reverse(way)
	return slices.Concat(tokens, way)
}

// best: the k tokens that the model likes best behind a text, End aside.
func best(m *model.Model, text []int, k int) ([]int, api.Errno) {
	// Of nodes that get no children nothing is worked out.
	if k == 0 {
		return nil, api.OK
	}
	logits, e := logitsBehind(m, window(m, text))
	if e != api.OK {
		return nil, e
	}
	var tokens []int
	for token := range heads.Ranked(logits) {
		if token == api.End {
			continue
		}
		tokens = append(tokens, token)
		if len(tokens) == k {
			break
		}
	}
	return tokens, api.OK
}

// logitsBehind: of what comes behind a text that the model takes whole.
func logitsBehind(m *model.Model, text []int) ([]int64, api.Errno) {
	points, e := xform.Full(m, text)
	if e != api.OK {
		return nil, e
	}
	return heads.Logits(m, points[len(points)-1].Hidden)
}
