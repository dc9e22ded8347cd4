package bestof

import (
	"cmp"
	"slices"

	"augur/api"
	"augur/score"
)

// answers: those of requests that are Done, the one of the lowest number first.
type answers []api.Beam

// done: the answers that there are by now, unless the judging model refuses one of them.
func (b *Batch) done() (answers, api.Errno) {
	var list answers
	for _, id := range b.ids {
		state, err := b.engine.Poll(id)
		if err != api.OK {
			return nil, err
		}
		if state.Status != api.Done {
			continue
		}
		gap, err := b.gap(state.Tokens)
		if err != api.OK {
			return nil, err
		}
		last := state.Tokens[len(state.Tokens)-1]
		list = append(list, api.Beam{Tokens: state.Tokens, Gap: gap, Over: last == api.End})
	}
	return list, api.OK
}

// gap: of an answer, by the marks of its own tokens alone.
func (b *Batch) gap(tokens []int) (int64, api.Errno) {
	marks, err := score.Marks(b.judge, slices.Concat(b.prompt, tokens))
	if err != api.OK {
		return 0, err
	}
	var sum int64
	// The first mark is that of the prompt's second token.
	for _, mark := range marks[len(b.prompt)-1:] {
		sum += mark.Gap
	}
	return sum, api.OK
}

// compare: which of the answers at two places comes first in the order of answers?
func (a answers) compare(one, other int) int {
	return cmp.Or(
		cmp.Compare(a[one].Gap, a[other].Gap),
		slices.Compare(a[one].Tokens, a[other].Tokens),
		cmp.Compare(one, other),
	)
}

// ordered: the same in the order of answers.
func (a answers) ordered() []api.Beam {
	places := make([]int, len(a))
	for place := range places {
		places[place] = place
	}
	slices.SortFunc(places, a.compare)
	list := make([]api.Beam, len(a))
	for i, place := range places {
		list[i] = a[place]
	}
	return list
}
