package ngram

import "augur/api"

// run: its tokens in their order; what is behind its length stays 0.
type run [api.MaxGram]int

// place: one of a text, from 1 on. It is never changed once it was entered: so whoever goes from place to place meets the text as it was when he began.
type place struct {
	at int
	// earlier: by the length less 1 of the run ahead: the latest earlier place with the same run ahead.
	earlier [api.MaxGram]*place
}

// longest: how many tokens the longest run has that stands ahead of place q.
func (x *Index) longest(q int) int { return min(q, len(x.latest)) }

// runAhead: the run of so many tokens that stands ahead of place q.
func (x *Index) runAhead(q, length int) run {
	var r run
	copy(r[:], x.tokens[q-length:q])
	return r
}

// enterLast: the place at the text's end becomes the latest one of each run ahead of it.
func (x *Index) enterLast() {
	last := &place{at: len(x.tokens)}
	for i := range x.longest(last.at) {
		r := x.runAhead(last.at, i+1)
		last.earlier[i] = x.latest[i][r]
		x.latest[i][r] = last
	}
	x.places = append(x.places, last)
}

// leaveLast: the place at the text's end is no more; of each run ahead of it the one before is the latest again.
func (x *Index) leaveLast() {
	last := x.places[len(x.places)-1]
	for i := range x.longest(last.at) {
		r := x.runAhead(last.at, i+1)
		if last.earlier[i] == nil {
			delete(x.latest[i], r)
		} else {
			x.latest[i][r] = last.earlier[i]
		}
	}
	x.places[len(x.places)-1] = nil
	x.places = x.places[:len(x.places)-1]
}

// endRun: the place at the text's end, and the length of the end run ahead of it; 0, if there is none.
func (x *Index) endRun() (*place, int) {
	if x.Len() == 0 {
		return nil, 0
	}
	last := x.places[len(x.places)-1]
	length := x.longest(last.at)
	for length > 0 && last.earlier[length-1] == nil {
		length--
	}
	return last, length
}
