package server

import (
	"augur/api"
	"augur/text"
	"augur/wire"
)

// How a request ends, as it is told.
const (
	byItself = 0
	byStop   = 1
	byCancel = 2
)

// request: an open one.
type request struct {
	session *session
	id      int // its client's number of it
	number  int // the engine's
	stream  *text.Stream
}

// tellAll: what a step brought the open requests; those whose end is told are open no more.
func (s *Server) tellAll(report api.Report) {
	var open []*request
	for _, r := range s.requests {
		if !s.goOn(r, answered(report, r.number)) {
			open = append(open, r)
		}
	}
	s.requests = open
}

// answered: the tokens of a request in a report; none, if it has no part in it.
func answered(report api.Report, number int) []int {
	for _, did := range report.Did {
		if did.Id == number {
			return did.Tokens
		}
	}
	return nil
}

// goOn: a request's new tokens become text; is its end told?
func (s *Server) goOn(r *request, tokens []int) bool {
	given := r.feed(tokens)
	switch {
	case r.stream.Over():
		// Of one that is Done already this changes nothing.
		s.engine.Cancel(r.number)
		r.tellText(given)
		r.tellEnd(byStop)
		return true
	case s.isDone(r):
		r.tellText(append(given, r.stream.Close()...))
		r.tellEnd(byItself)
		return true
	default:
		r.tellText(given)
		return false
	}
}

func (s *Server) isDone(r *request) bool {
	state, _ := s.engine.Poll(r.number)
	return state.Status == api.Done
}

// feed: what the stream gives out by these tokens. End is left out, as by it the stream would be over as by a stop.
func (r *request) feed(tokens []int) []byte {
	var given []byte
	for _, token := range tokens {
		if token != api.End {
			piece, _ := r.stream.Feed(token)
			given = append(given, piece...)
		}
	}
	return given
}

// tellText: bytes of the request's text, if there are any.
func (r *request) tellText(b []byte) {
	if len(b) > 0 {
		r.session.tell(wire.Line{Word: "text", Id: r.id, Text: b})
	}
}

func (r *request) tellEnd(how int) {
	r.session.tell(wire.Line{Word: "end", Id: r.id, Numbers: []int{how}})
}
