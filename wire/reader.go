package wire

import (
	"strconv"
	"strings"

	"augur/api"
)

// reader goes through a text from the front; once something else stands there than was wanted, it has failed for good.
type reader struct {
	rest   string
	failed bool
}

// must: if it is not so, the reader has failed, and nothing is left, so that nobody reads on for long.
func (r *reader) must(so bool) {
	if !so {
		r.rest, r.failed = "", true
	}
}

// more: is something left?
func (r *reader) more() bool { return r.rest != "" }

// ends: was there just what was wanted?
func (r *reader) ends() bool { return !r.failed && !r.more() }

// upToBlank: what stands ahead of the next blank, or all that is left.
func (r *reader) upToBlank() string {
	n := strings.IndexByte(r.rest, ' ')
	if n < 0 {
		n = len(r.rest)
	}
	out := r.rest[:n]
	r.rest = r.rest[n:]
	return out
}

// blank: the one that stands ahead of each part but the first.
func (r *reader) blank() {
	rest, is := strings.CutPrefix(r.rest, " ")
	r.rest = rest
	r.must(is)
}

func (r *reader) number() int {
	r.blank()
	text := r.upToBlank()
	n, err := strconv.ParseInt(text, 10, 64)
	// It is written again, as the library reads a + and needless zeros too.
	r.must(err == nil && strconv.FormatInt(n, 10) == text)
	return int(n)
}

func (r *reader) seed() uint64 {
	r.blank()
	text := r.upToBlank()
	n, err := strconv.ParseUint(text, 10, 64)
	r.must(err == nil && strconv.FormatUint(n, 10) == text)
	return n
}

func (r *reader) id() int {
	n := r.number()
	r.must(isID(n))
	return n
}

// literal: the bytes of one.
func (r *reader) literal() []byte {
	r.blank()
	b, n, e := Unquote(r.rest)
	r.rest = r.rest[n:]
	r.must(e == api.OK)
	return b
}
