package server

import (
	"slices"
	"sync"

	"augur/api"
	"augur/bpe"
	"augur/text"
	"augur/wire"
)

// serveAll: all whole lines, session by session.
func (s *Server) serveAll() {
	sessions := s.inOrder()
	lines := cutAll(sessions)
	for i, c := range sessions {
		for line := range lines[i] {
			s.serve(c, line)
		}
		c.served()
	}
}

// cutAll: the whole lines of each session, all of which are in its channel when this answers.
func cutAll(sessions []*session) []chan string {
	all := make([]chan string, len(sessions))
	var cutters sync.WaitGroup
	for i, c := range sessions {
		lines := make(chan string, c.whole())
		all[i] = lines
		cutters.Add(1)
		go func() {
			defer cutters.Done()
			c.cut(lines)
		}()
	}
	cutters.Wait()
	return all
}

// serve: what a line does.
func (s *Server) serve(c *session, line string) {
	// Of a text that is no line the word is empty, which is none of these.
	l, _ := wire.Parse(line)
	switch l.Word {
	case "ask":
		s.ask(c, l)
	case "cancel":
		s.cancel(c, l.Id)
	default:
		c.tellError(0, api.ErrLine)
	}
}

// ask: a request that is accepted is open.
func (s *Server) ask(c *session, l wire.Line) {
	r, e := s.newRequest(c, l)
	if e != api.OK {
		c.tellError(l.Id, e)
		return
	}
	// The engine's numbers rise, so the last one is the greatest.
	s.requests = append(s.requests, r)
	c.tell(wire.Line{Word: "ok", Id: l.Id})
}

// newRequest: the one that a line asks for, accepted by the engine.
func (s *Server) newRequest(c *session, l wire.Line) (*request, api.Errno) {
	if s.place(c, l.Id) >= 0 {
		return nil, api.ErrRequest
	}
	tokens, e := bpe.Encode(s.vocab, l.Text)
	if e != api.OK {
		return nil, e
	}
	stream, e := text.New(s.vocab, l.Stops...)
	if e != api.OK {
		return nil, e
	}
	number, e := s.engine.Submit(askOf(l, tokens))
	if e != api.OK {
		return nil, e
	}
	return &request{session: c, id: l.Id, number: number, stream: stream}, api.OK
}

// askOf: the engine's request that a line means, with its text's tokens.
func askOf(l wire.Line, prompt []int) api.Ask {
	n := l.Numbers
	return api.Ask{
		Prompt:   prompt,
		New:      n[0],
		Proposer: n[1],
		Params:   api.Params{Temp: n[2], TopK: n[3], TopP: n[4], Penalty: n[5], Seed: l.Seed},
		Guide:    l.Guide,
	}
}

// cancel: what waits in the request's stream is told to nobody.
func (s *Server) cancel(c *session, id int) {
	at := s.place(c, id)
	if at < 0 {
		c.tellError(id, api.ErrRequest)
		return
	}
	r := s.requests[at]
	s.engine.Cancel(r.number)
	r.tellEnd(byCancel)
	s.requests = slices.Delete(s.requests, at, at+1)
}

// place: where a session's open request of this ID stands; -1, if there is none.
func (s *Server) place(c *session, id int) int {
	for i, r := range s.requests {
		if r.session == c && r.id == id {
			return i
		}
	}
	return -1
}
