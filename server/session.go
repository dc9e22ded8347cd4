package server

import (
	"bytes"

	"augur/api"
	"augur/wire"
)

// lineEnd: the byte behind each line.
const lineEnd = '\n'

// session: a client's side.
type session struct {
	// input: what came and was not served yet; its last line, whose end did not come, begins at the place begun.
	input []byte
	begun int
	// told: what goes back with this Tick.
	told []byte
}

// take: more bytes stand behind the input. Of a line that is too long only so much is kept as tells that: who never ends a line fills no memory.
func (c *session) take(b []byte) {
	for len(b) > 0 {
		line, rest, ended := bytes.Cut(b, []byte{lineEnd})
		room := api.MaxLine + 1 - (len(c.input) - c.begun)
		c.input = append(c.input, line[:min(len(line), room)]...)
		if ended {
			c.input = append(c.input, lineEnd)
			c.begun = len(c.input)
		}
		b = rest
	}
}

// whole: how many whole lines wait to be served.
func (c *session) whole() int { return bytes.Count(c.input, []byte{lineEnd}) }

// cut sends the whole lines of the input over a channel that has room for all of them, and closes it.
func (c *session) cut(lines chan<- string) {
	rest := c.input[:c.begun]
	for len(rest) > 0 {
		var line []byte
		line, rest, _ = bytes.Cut(rest, []byte{lineEnd})
		lines <- string(line)
	}
	close(lines)
}

// served: of the input only the line is left whose end did not come.
func (c *session) served() {
	c.input, c.begun = bytes.Clone(c.input[c.begun:]), 0
}

// tell: a line goes back. Each that is told may be: no step answers so many bytes that it would be too long.
func (c *session) tell(l wire.Line) {
	text, _ := wire.Print(l)
	c.told = append(c.told, text...)
	c.told = append(c.told, lineEnd)
}

// tellError: the request of this ID, or none of them, met an error.
func (c *session) tellError(id int, e api.Errno) {
	c.tell(wire.Line{Word: "error", Id: id, Numbers: []int{int(e)}})
}

// handOver: what was told, which is the caller's from now on.
func (c *session) handOver() []byte {
	told := c.told
	c.told = nil
	return told
}
