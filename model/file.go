package model

import (
	"bytes"

	"augur/api"
)

// A file's first bytes, and its sections' letters.
const (
	begin      = "augur\x01"
	ofConfig   = 'C'
	ofEmbed    = 'E'
	ofTurns    = 'T'
	ofLayer    = 'L'
	ofFinal    = 'F'
	ofHead     = 'H'
	ofMedusa   = 'M'
	ofDigest   = 'Z'
	configSize = 8
	turnSize   = 4
)

// Encode: weights as a file's bytes.
func Encode(w api.Weights) ([]byte, api.Errno) {
	if e := Check(w); e != api.OK {
		return nil, e
	}
	out := section([]byte(begin), ofConfig, configBytes(w.Config))
	out = section(out, ofEmbed, narrowBytes(nil, w.Embed.Data))
	out = section(out, ofTurns, turnBytes(w.Turns))
	for _, l := range w.Layers {
		out = section(out, ofLayer, layerBytes(l))
	}
	out = section(out, ofFinal, narrowBytes(nil, w.Final))
	out = section(out, ofHead, narrowBytes(nil, w.Head.Data))
	for _, m := range w.Medusa {
		out = section(out, ofMedusa, narrowBytes(nil, m.Data))
	}
	return append(out, lastSection(out)...), api.OK
}

// section: the bytes with a section behind them.
func section(out []byte, letter byte, body []byte) []byte {
	return append(append(out, header(letter, len(body))...), body...)
}

// header: what stands ahead of a section's body of n bytes.
func header(letter byte, n int) []byte {
	return little([]byte{letter}, uint64(n), 4)
}

// lastSection: the one that holds the digest of all bytes ahead of it.
func lastSection(ahead []byte) []byte {
	return section(nil, ofDigest, little(nil, digest(ahead), 8))
}

// little: the bytes with the lowest so many of a number behind them, the lowest first.
func little(out []byte, n uint64, size int) []byte {
	for range size {
		out = append(out, byte(n))
		n >>= 8
	}
	return out
}

// digest: FNV-1a.
func digest(b []byte) uint64 {
	h := uint64(14695981039346656037)
	for _, x := range b {
		h = (h ^ uint64(x)) * 1099511628211
	}
	return h
}

func configBytes(c api.Config) []byte {
	out := make([]byte, 0, configSize)
	for _, n := range [configSize]int{c.Vocab, c.Width, c.Heads, c.KV, c.Layers, c.Hidden, c.Len, c.Medusa} {
		out = append(out, byte(n))
	}
	return out
}

func narrowBytes(out []byte, numbers []int8) []byte {
	for _, x := range numbers {
		out = append(out, byte(x))
	}
	return out
}

func turnBytes(turns []api.Turn) []byte {
	out := []byte{}
	for _, t := range turns {
		out = little(out, uint64(t.C), turnSize/2)
		out = little(out, uint64(t.S), turnSize/2)
	}
	return out
}

func layerBytes(l api.Layer) []byte {
	out := narrowBytes(narrowBytes(nil, l.Norm1), l.Norm2)
	for _, m := range matsOf(&l) {
		out = narrowBytes(out, m.Data)
	}
	for _, s := range l.By {
		out = append(out, byte(s))
	}
	return out
}

// Decode: the weights that a file's bytes are.
func Decode(b []byte) (api.Weights, api.Errno) {
	r := reader{rest: b}
	r.meet([]byte(begin))
	c := configOf(r.body(ofConfig, configSize))
	if r.bad || CheckConfig(c) != api.OK {
		return api.Weights{}, api.ErrFile
	}
	w := r.weights(c)
	r.meet(lastSection(b[:len(b)-len(r.rest)]))
	if r.bad || len(r.rest) > 0 || Check(w) != api.OK {
		return api.Weights{}, api.ErrFile
	}
	return w, api.OK
}

// Load: the model of a file.
func Load(b []byte) (*Model, api.Errno) {
	w, e := Decode(b)
	if e != api.OK {
		return nil, e
	}
	// What Decode answers is new memory: the model may keep it without a copy.
	return &Model{weights: w}, api.OK
}

// reader goes through bytes from the front; once something is not as it must be, they are bad for good.
type reader struct {
	rest []byte
	bad  bool
}

// meet: these bytes must come next.
func (r *reader) meet(want []byte) {
	rest, ok := bytes.CutPrefix(r.rest, want)
	r.rest, r.bad = rest, r.bad || !ok
}

// take: the next n bytes; where there are not so many, zeros, so that the caller need not ask.
func (r *reader) take(n int) []byte {
	if len(r.rest) < n {
		r.bad = true
		return make([]byte, n)
	}
	out := r.rest[:n]
	r.rest = r.rest[n:]
	return out
}

// body: that of the next section, which must have this letter and n bytes.
func (r *reader) body(letter byte, n int) []byte {
	r.meet(header(letter, n))
	return r.take(n)
}

// narrow: the next n bytes as numbers of 8 bits.
func (r *reader) narrow(n int) []int8 {
	out := make([]int8, n)
	for i, x := range r.take(n) {
		out[i] = int8(x)
	}
	return out
}

// mat: a matrix of this shape out of the next bytes.
func (r *reader) mat(c api.Config, s shape) api.Mat {
	rows, cols := s.rows(c), s.cols(c)
	return api.Mat{Rows: rows, Cols: cols, Data: r.narrow(rows * cols)}
}

// tokenMat: a section that is a matrix with a row for each token.
func (r *reader) tokenMat(c api.Config, letter byte) api.Mat {
	r.meet(header(letter, c.Vocab*c.Width))
	return r.mat(c, shapes()[tokenShape])
}

// weights: all sections between the measures and the digest.
func (r *reader) weights(c api.Config) api.Weights {
	w := api.Weights{Config: c, Layers: make([]api.Layer, c.Layers), Medusa: make([]api.Mat, c.Medusa)}
	w.Embed = r.tokenMat(c, ofEmbed)
	w.Turns = turnsOf(r.body(ofTurns, headSize(c)/2*turnSize))
	for i := range w.Layers {
		w.Layers[i] = r.layer(c)
	}
	r.meet(header(ofFinal, c.Width))
	w.Final = r.narrow(c.Width)
	w.Head = r.tokenMat(c, ofHead)
	for i := range w.Medusa {
		w.Medusa[i] = r.tokenMat(c, ofMedusa)
	}
	return w
}

func (r *reader) layer(c api.Config) api.Layer {
	l := api.Layer{}
	r.meet(header(ofLayer, layerSize(c)))
	l.Norm1, l.Norm2 = r.narrow(c.Width), r.narrow(c.Width)
	all := shapes()
	for i, m := range matsOf(&l) {
		*m = r.mat(c, all[i])
	}
	for i, s := range r.take(len(l.By)) {
		l.By[i] = int(s)
	}
	return l
}

// layerSize: how many bytes the body of a layer's section has.
func layerSize(c api.Config) int {
	size := 2*c.Width + len(api.Shifts{})
	all := shapes()
	for _, s := range all[:layerMats] {
		size += s.rows(c) * s.cols(c)
	}
	return size
}

func configOf(b []byte) api.Config {
	return api.Config{
		Vocab:  int(b[0]),
		Width:  int(b[1]),
		Heads:  int(b[2]),
		KV:     int(b[3]),
		Layers: int(b[4]),
		Hidden: int(b[5]),
		Len:    int(b[6]),
		Medusa: int(b[7]),
	}
}

func turnsOf(b []byte) []api.Turn {
	out := make([]api.Turn, len(b)/turnSize)
	for i := range out {
		t := b[i*turnSize:]
		out[i] = api.Turn{C: numberOf16(t[0], t[1]), S: numberOf16(t[2], t[3])}
	}
	return out
}

// numberOf16: the number with sign whose two bytes these are.
func numberOf16(low, high byte) int64 {
	return int64(int16(uint16(low) | uint16(high)<<8))
}
