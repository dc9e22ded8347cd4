package sched

import "augur/api"

// places: a set of seats, by their places; a value, so that one can be tried without the other being changed.
type places [api.MaxLive]bool

// desk: where a plan is made.
type desk struct {
	measures api.Serve
	seats    []api.Seat // the oldest first
	out      places
	left     int // of the budget
	given    int // blocks that those who are served get beyond what they hold
	plan     api.Plan
}

// look serves a seat, if there is room for it or the younger ones can make it.
func (d *desk) look(place int) {
	s := d.seats[place]
	most, least := d.wants(s)
	if !d.makeRoom(place, least) {
		return
	}
	n := min(most, d.room(place, d.out))
	d.left -= n
	d.given += max(needed(s.Cached+n, d.measures.Block)-len(s.Held), 0)
	slice := api.Slice{Id: s.Id}
	if fills(s) {
		slice.Prefill = n
	} else {
		slice.Nodes = n
	}
	d.plan.Slices = append(d.plan.Slices, slice)
}

// wants: how many positions a seat would take, and how many it can't do without.
func (d *desk) wants(s api.Seat) (most, least int) {
	if fills(s) {
		most = min(rest(s), d.measures.Chunk, d.left)
		return most, most
	}
	return min(max(s.Want, 1), d.measures.Tree, d.left), 1
}

// rest: how many known tokens are not in the cache yet, the root aside.
func rest(s api.Seat) int { return s.Known - 1 - s.Cached }

// fills: is it one that is not worked through yet?
func fills(s api.Seat) bool { return rest(s) > 0 }

// makeRoom puts out the youngest, one by one, until a seat has room for so many positions; nobody, if even all younger ones could not make it.
func (d *desk) makeRoom(place, least int) bool {
	out := d.out
	var ids []int
victims:
	for young := len(d.seats) - 1; ; young-- {
		switch {
		case d.room(place, out) >= least:
			break victims
		case young == place:
			return false
		case out[young] || len(d.seats[young].Held) == 0:
			continue victims
		}
		out[young] = true
		ids = append(ids, d.seats[young].Id)
	}
	d.out = out
	d.plan.Out = append(d.plan.Out, ids...)
	return true
}

// room: for how many positions behind its cached ones a seat would have blocks, if these were out.
// (Free blocks are never fewer than none, so what a seat holds too much needs no case of its own.)
func (d *desk) room(place int, out places) int {
	s := d.seats[place]
	return (len(s.Held)+d.free(out))*d.measures.Block - s.Cached
}

// free: how many blocks would be nobody's, if these were out.
func (d *desk) free(out places) int {
	free := d.measures.Blocks - d.given
	var held [api.MaxBlocks]bool
	for place, s := range d.seats {
		if out[place] {
			continue
		}
		for _, b := range s.Held {
			if !held[b] {
				held[b] = true
				free--
			}
		}
	}
	return free
}
