package testaid

import (
	"slices"

	"augur/api"
	"augur/bpe"
)

// Vocab: the vocabulary of these base bytes and pairs.
func Vocab(base string, pairs ...[2]int) api.Vocab {
	return api.Vocab{Base: []byte(base), Pairs: pairs}
}

// Letters: so many unlike bytes, from 0x30 on.
func Letters(n int) string {
	var out []byte
	for i := range n {
		out = append(out, byte(0x30+i))
	}
	return string(out)
}

// Tokens: how many a right vocabulary has.
func Tokens(v api.Vocab) int { return 1 + len(v.Base) + len(v.Pairs) }

// Spelled: the bytes of a token of a right vocabulary, by the words of chapter 5.
func Spelled(v api.Vocab, token int) string {
	switch b := len(v.Base); {
	case token == api.End:
		return ""
	case token <= b:
		return string(v.Base[token-1 : token])
	default:
		pair := v.Pairs[token-b-1]
		return Spelled(v, pair[0]) + Spelled(v, pair[1])
	}
}

// Vocab: a right vocabulary of some of the letters, in any order, and up to so many pairs.
func (s *Source) Vocab(letters string, pairs int) api.Vocab {
	base := []byte(letters)
	for i := range base {
		j := i + s.Below(len(base)-i)
		base[i], base[j] = base[j], base[i]
	}
	v := api.Vocab{Base: base[:1+s.Below(len(base))]}
	for range pairs {
		own := Tokens(v)
		w := api.Vocab{Base: v.Base, Pairs: slices.Concat(v.Pairs, [][2]int{{1 + s.Below(own-1), 1 + s.Below(own-1)}})}
		if bpe.Check(w) == api.OK {
			v = w
		}
	}
	return v
}

// WrongVocabs: some for each way to be wrong.
func WrongVocabs() []api.Vocab {
	many := Vocab(Letters(48))
	for i := range 16 {
		many.Pairs = append(many.Pairs, [2]int{1, 1 + i})
	}
	return []api.Vocab{
		{}, {Base: []byte{}, Pairs: [][2]int{}}, {Pairs: [][2]int{{1, 1}}}, Vocab("aa"), Vocab("aba"), Vocab(Letters(49)), many,
		Vocab("ab", [2]int{0, 1}), Vocab("ab", [2]int{1, 0}), Vocab("ab", [2]int{1, 3}), Vocab("ab", [2]int{3, 1}), Vocab("ab", [2]int{-1, 1}), Vocab("ab", [2]int{1, -1}), Vocab("ab", [2]int{1, 2}, [2]int{1, 2}),
		Vocab("a", [2]int{1, 1}, [2]int{2, 2}, [2]int{3, 3}, [2]int{4, 4}, [2]int{5, 5}),
		{Base: make([]byte, 1<<20)}, {Base: []byte("a"), Pairs: make([][2]int, 1<<20)},
	}
}
