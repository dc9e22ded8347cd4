package journal

import "augur/api"

// reader goes through bytes from the front; once there are not so many as were wanted, it is short for good.
type reader struct {
	rest  []byte
	short bool
}

// ends: were there just as many bytes as were wanted?
func (r *reader) ends() bool { return !r.short && len(r.rest) == 0 }

// take: the next n bytes; none, if there are not so many.
func (r *reader) take(n uint64) []byte {
	if n > uint64(len(r.rest)) {
		r.short = true
		return nil
	}
	out := r.rest[:n]
	r.rest = r.rest[n:]
	return out
}

// number: of so many bytes, the lowest first.
func (r *reader) number(size uint64) uint64 {
	n := uint64(0)
	for i, b := range r.take(size) {
		n |= uint64(b) << (8 * i)
	}
	return n
}

// list: n things, each read by the function. How many is believed only as long as there are bytes for them.
func list[T any](r *reader, n uint64, read func() T) []T {
	var out []T
	for ; n > 0 && !r.short; n-- {
		out = append(out, read())
	}
	return out
}

// id: a request's number; one above all that int holds becomes negative, which is nobody's.
func (r *reader) id() int { return int(r.number(8)) }

func (r *reader) token() int { return int(r.number(1)) }

func (r *reader) tokens() []int { return list(r, r.number(1), r.token) }

func (r *reader) node() api.RawNode {
	parent := int(r.number(8))
	token := int(r.number(8))
	return api.RawNode{Parent: parent, Token: token}
}

func (r *reader) ask() api.Ask {
	var a api.Ask
	a.Prompt = r.tokens()
	a.New = int(r.number(1))
	a.Params.Temp = int(r.number(2))
	a.Params.TopK = int(r.number(1))
	a.Params.TopP = int(r.number(2))
	a.Params.Penalty = int(r.number(2))
	a.Params.Seed = r.number(8)
	a.Proposer = int(r.number(1))
	a.Guide = string(r.take(r.number(1)))
	return a
}
