package wire

import (
	"strconv"
	"strings"

	"augur/api"
)

// The bytes that a literal may hold, and the digits of the others' pieces.
const (
	lowest  = 32
	highest = 126
	digits  = "0123456789abcdef"
)

// What the pieces of more than one byte begin with, and how many bytes the longest of them have.
const (
	escape  = `\`
	byHex   = `\x`
	longest = 4
)

// Quote: bytes as a literal.
func Quote(b []byte) string {
	out := make([]byte, 0, len(b)+2)
	out = append(out, '"')
	for _, x := range b {
		out = appendPiece(out, x)
	}
	return string(append(out, '"'))
}

// Unquote: the bytes of a literal at the head of a text, and how much of it that takes.
func Unquote(text string) ([]byte, int, api.Errno) {
	body, begun := strings.CutPrefix(text, `"`)
	if !begun {
		return nil, 0, api.ErrLine
	}
	var out []byte
	from := 0 // where the piece begins that is being gone through
	for at, r := range body {
		// Above it are bytes that no literal has, and whatever is not one byte.
		if r > highest {
			break
		}
		piece := body[from : at+1]
		if piece == `"` {
			return out, at + 2, api.OK // the quote ahead counts too
		}
		if len(piece) < pieceLen(piece) {
			continue
		}
		b, is := byteOf(piece)
		if !is {
			break
		}
		out, from = append(out, b), at+1
	}
	return nil, 0, api.ErrLine
}

// appendPiece: the bytes with the piece of one more behind them.
func appendPiece(out []byte, b byte) []byte {
	switch {
	case b == '"' || b == '\\':
		return append(out, '\\', b)
	case lowest <= b && b <= highest:
		return append(out, b)
	}
	return append(out, '\\', 'x', digits[b>>4], digits[b&15])
}

// pieceLen: how many bytes a piece has that begins so.
func pieceLen(begun string) int {
	switch {
	case strings.HasPrefix(begun, byHex):
		return longest
	case strings.HasPrefix(begun, escape):
		return 2
	}
	return 1
}

// byteOf: the byte whose piece this is; false, if it is no byte's.
func byteOf(piece string) (byte, bool) {
	b := piece[len(piece)-1]
	if hex, is := strings.CutPrefix(piece, byHex); is {
		n, err := strconv.ParseUint(hex, 16, 8)
		if err != nil {
			return 0, false
		}
		b = byte(n)
	}
	// The byte's own piece is asked for, as others can be read as the byte too.
	return b, string(appendPiece(make([]byte, 0, longest), b)) == piece
}
