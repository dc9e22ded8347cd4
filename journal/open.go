package journal

import (
	"bytes"
	"slices"

	"augur/api"
	"augur/model"
)

// Open: the journal that a book's bytes tell of, up to its first entry that is not whole or not right; how many bytes that are.
func Open(m *model.Model, v api.Vocab, c api.Serve, book []byte) (*Journal, int, api.Errno) {
	j, e := New(m, v, c)
	if e != api.OK {
		return nil, 0, e
	}
	if len(firstEntry(book)) == 0 {
		return j, 0, api.OK
	}
	n := j.replay(book)
	if n == 0 {
		return nil, 0, api.ErrBook
	}
	j.book = slices.Clone(book[:n])
	return j, n, api.OK
}

// The parts of a book, in their order.
const (
	nothing = iota
	head
	beginning // the requests that there were when the book began
	calls
)

// kind: one of an entry: in which part of a book it stands, and what reads its body and does what it tells; false, and nothing is done, if it is not right.
type kind struct {
	letter byte
	part   int
	read   func(j *Journal, body *reader) bool
}

// kinds: one a letter.
func kinds() []kind {
	return []kind{
		{letter: ofHead, part: head, read: readHead},
		{letter: ofOver, part: beginning, read: readOver},
		{letter: ofLive, part: beginning, read: readLive},
		{letter: ofAsk, part: calls, read: readAsk},
		{letter: ofOffer, part: calls, read: readOffer},
		{letter: ofStep, part: calls, read: readStep},
		{letter: ofCancel, part: calls, read: readCancel},
	}
}

// mayFollow: the head comes first and once, and no part comes back.
func (k kind) mayFollow(part int) bool {
	return (k.part == head) == (part == nothing) && k.part >= part
}

// replay: a new journal does what the entries tell, up to the first that is not whole or not right; how many bytes these are.
func (j *Journal) replay(book []byte) int {
	n, part := 0, nothing
	for {
		e := firstEntry(book[n:])
		if len(e) == 0 {
			return n
		}
		next, right := j.do(e, part)
		if !right {
			return n
		}
		n, part = n+len(e), next
	}
}

// do: what a whole entry tells, behind a part of the book; in which part it stands itself, and whether it is right there.
func (j *Journal) do(e []byte, part int) (int, bool) {
	for _, k := range kinds() {
		if k.letter == e[0] {
			return k.part, k.mayFollow(part) && k.read(j, &reader{rest: bodyOf(e)})
		}
	}
	return nothing, false
}

// readHead: it is right if it is just the one that the new journal's book has.
func readHead(j *Journal, body *reader) bool {
	return bytes.Equal(body.rest, bodyOf(firstEntry(j.book)))
}

func readOver(j *Journal, body *reader) bool {
	status := int(body.number(1))
	kept := body.tokens()
	if !body.ends() || !isOver(status) || !j.mayKeep(kept) {
		return false
	}
	j.requests = append(j.requests, request{over: status, kept: kept})
	return true
}

func readLive(j *Journal, body *reader) bool {
	a := body.ask()
	kept := body.tokens()
	return body.ends() && j.mayKeep(kept) && j.accept(a, kept) == api.OK
}

func readAsk(j *Journal, body *reader) bool {
	a := body.ask()
	return body.ends() && j.accept(a, nil) == api.OK
}

func readOffer(j *Journal, body *reader) bool {
	id := body.id()
	raw := list(body, body.number(4), body.node)
	return body.ends() && j.engine.Offer(j.inner(id), raw) == api.OK
}

func readStep(j *Journal, body *reader) bool {
	picks := list(body, body.number(1), body.id)
	// Only what Step itself would have noted is right.
	if !body.ends() || !slices.Equal(picks, j.picked(picks)) {
		return false
	}
	j.step(picks)
	return true
}

func readCancel(j *Journal, body *reader) bool {
	id := body.id()
	return body.ends() && j.engine.Cancel(j.inner(id)) == api.OK
}

// mayKeep: may a request's kept tokens be these?
func (j *Journal) mayKeep(tokens []int) bool {
	vocab := j.model.Config().Vocab
	return len(tokens) <= api.MaxLen && !slices.ContainsFunc(tokens, func(token int) bool { return token >= vocab })
}
