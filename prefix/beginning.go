package prefix

import (
	"slices"

	"augur/api"
)

// piece: the tokens of one block; what is behind the pool's size stays 0 in all of them.
type piece [api.MaxBlock]int

// cut: the first whole blocks of tokens, most of them at most.
func cut(tokens []int, size, most int) []piece {
	text := make([]piece, min(len(tokens)/size, most))
	for i := range text {
		copy(text[i][:size], tokens[i*size:])
	}
	return text
}

// key: how many blocks a beginning has, and the tokens of its last one. Others may end alike: what is ahead of that is held against each other by is.
type key struct {
	length int
	tokens piece
}

// beginning: a known beginning of texts.
type beginning struct {
	key
	// shorter: the one that is one block shorter, and longer: how many known ones are one block longer.
	shorter *beginning
	longer  int
	block   int
	// used: which of the cache's calls used it last.
	used int
}

// is: whether these, as many as its own, are its tokens.
func (b *beginning) is(text []piece) bool {
	for _, tokens := range slices.Backward(text) {
		if b.tokens != tokens {
			return false
		}
		b = b.shorter
	}
	return true
}

// blocks: those of the beginning and of all shorter ones, the shortest first.
func (b *beginning) blocks() []int {
	list := make([]int, b.length)
	for ; b.length > 0; b = b.shorter {
		list[b.length-1] = b.block
	}
	return list
}
