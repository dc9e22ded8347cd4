package wire

import (
	"strconv"

	"augur/api"
)

// printer: the beginning of a line's text. Once that is longer than a line may be it is full, and no literal comes to it any more.
type printer struct {
	text []byte
}

func (p *printer) full() bool { return len(p.text) > api.MaxLine }

// part: a blank, and this.
func (p *printer) part(text string) {
	p.text = append(p.text, ' ')
	p.text = append(p.text, text...)
}

func (p *printer) number(n int) { p.part(strconv.Itoa(n)) }

func (p *printer) seed(n uint64) { p.part(strconv.FormatUint(n, 10)) }

// literal: the part that is the bytes' one. Of too many bytes it looks only at as many as make the printer full.
func (p *printer) literal(bytes string) {
	if p.full() {
		return
	}
	p.part(Quote([]byte(bytes[:min(len(bytes), api.MaxLine)])))
}
