package journal

import (
	"bytes"

	"augur/api"
	"augur/model"
)

// The entries' letters.
const (
	ofHead   = 'H'
	ofOver   = 'D'
	ofLive   = 'L'
	ofAsk    = 'S'
	ofOffer  = 'O'
	ofStep   = 'T'
	ofCancel = 'X'
)

// How many bytes stand ahead of an entry's body and behind it.
const (
	aheadSize  = 5
	digestSize = 8
)

// entry: the bytes of one.
func entry(letter byte, body []byte) []byte {
	out := append(little([]byte{letter}, len(body), 4), body...)
	return little(out, digest(out), digestSize)
}

// firstEntry: the one that is whole at the beginning of these bytes; no bytes, if none is.
func firstEntry(b []byte) []byte {
	if len(b) < aheadSize {
		return nil
	}
	length := reader{rest: b[1:aheadSize]}
	size := aheadSize + length.number(4) + digestSize
	if uint64(len(b)) < size {
		return nil
	}
	told := b[:size-digestSize]
	if !bytes.Equal(b[len(told):size], little(nil, digest(told), digestSize)) {
		return nil
	}
	return b[:size]
}

// bodyOf: that of a whole entry.
func bodyOf(e []byte) []byte { return e[aheadSize : len(e)-digestSize] }

// little: the bytes with the lowest so many of a number behind them, the lowest first.
func little[N int | uint64](out []byte, n N, size int) []byte {
	for i := range size {
		out = append(out, byte(uint64(n)>>(8*i)))
	}
	return out
}

// digest: FNV-1a.
func digest(b []byte) uint64 {
	h := uint64(14695981039346656037)
	for _, x := range b {
		h = (h ^ uint64(x)) * 1099511628211
	}
	return h
}

// headBytes: by which a book of one model, vocabulary and measures is told from others.
func headBytes(m *model.Model, v api.Vocab, c api.Serve) ([]byte, api.Errno) {
	file, e := model.Encode(m.Weights())
	if e != api.OK {
		return nil, e
	}
	out := little(nil, digest(file), 8)
	out = little(out, digest(vocabBytes(v)), 8)
	for _, n := range [...]int{c.Blocks, c.Block, c.Budget, c.Chunk, c.Tree} {
		out = little(out, n, 2)
	}
	return out, api.OK
}

func vocabBytes(v api.Vocab) []byte {
	out := append([]byte{byte(len(v.Base))}, v.Base...)
	out = append(out, byte(len(v.Pairs)))
	for _, pair := range v.Pairs {
		out = append(out, byte(pair[0]), byte(pair[1]))
	}
	return out
}

func tokenBytes(tokens []int) []byte {
	out := []byte{byte(len(tokens))}
	for _, token := range tokens {
		out = append(out, byte(token))
	}
	return out
}

// askBytes: of one that the engine accepted: all its numbers fit.
func askBytes(a api.Ask) []byte {
	p := a.Params
	out := tokenBytes(a.Prompt)
	out = little(out, a.New, 1)
	out = little(out, p.Temp, 2)
	out = little(out, p.TopK, 1)
	out = little(out, p.TopP, 2)
	out = little(out, p.Penalty, 2)
	out = little(out, p.Seed, 8)
	out = little(out, a.Proposer, 1)
	out = little(out, len(a.Guide), 1)
	return append(out, a.Guide...)
}

func liveBytes(ask []byte, kept []int) []byte {
	return append(bytes.Clone(ask), tokenBytes(kept)...)
}

func overBytes(s api.State) []byte {
	return append([]byte{byte(s.Status)}, tokenBytes(s.Tokens)...)
}

func offerBytes(id int, raw []api.RawNode) []byte {
	out := little(little(nil, id, 8), len(raw), 4)
	for _, n := range raw {
		out = little(little(out, n.Parent, 8), n.Token, 8)
	}
	return out
}

func stepBytes(picked []int) []byte {
	out := []byte{byte(len(picked))}
	for _, id := range picked {
		out = little(out, id, 8)
	}
	return out
}

func cancelBytes(id int) []byte { return little(nil, id, 8) }
