package text

import "bytes"

// mostBegun: so many bytes of a rune may be there without its being whole.
const mostBegun = 3

// As many bytes as a rune may lack, the lowest and the highest that stand behind a rune's first one.
const (
	lowest  = "\x80\x80\x80"
	highest = "\xbf\xbf\xbf"
)

// waiting: how many of a text's last bytes can't be given out yet.
func (s *Stream) waiting(text []byte) int {
	stop := s.stopBegun(text)
	return stop + runeBegun(text[:len(text)-stop])
}

// stopEnded: how many bytes the longest stop string has that the text ends with; 0, if it ends with none.
func (s *Stream) stopEnded(text []byte) int {
	longest := 0
	for _, stop := range s.stops {
		if bytes.HasSuffix(text, stop) {
			longest = max(longest, len(stop))
		}
	}
	return longest
}

// stopBegun: how many of a text's last bytes are the first ones, but not all, of a stop string; the most that are.
func (s *Stream) stopBegun(text []byte) int {
	most := 0
	for _, stop := range s.stops {
		for n := len(stop) - 1; n > most; n-- {
			if bytes.HasSuffix(text, stop[:n]) {
				most = n
			}
		}
	}
	return most
}

// runeBegun: how many of a text's last bytes are a rune's beginning.
func runeBegun(text []byte) int {
	for n := min(mostBegun, len(text)); n > 0; n-- {
		if beginsRune(string(text[len(text)-n:])) {
			return n
		}
	}
	return 0
}

// beginsRune: do bytes lack some others to be one whole rune?
//
// Whatever may be lacking, the lowest bytes or the highest ones will do: each
// first byte that does not allow all bytes behind it allows one of these two.
func beginsRune(part string) bool {
	return firstRune(part+lowest) > len(part) || firstRune(part+highest) > len(part)
}

// firstRune: how many bytes of a text are its first rune; 1, if no whole rune stands there.
func firstRune(text string) int {
	for at := range text {
		if at > 0 {
			return at
		}
	}
	return len(text)
}
