package beam_test

import (
	"math"
	"testing"

	"augur/api"
	"augur/pool"
	"augur/testaid"
)

// The flaws of a call, in the order in which they are found.
const (
	noModel = iota
	noPool
	otherShape
	noPrompt
	longPrompt
	badToken
	badN
	badMost
	longTogether
	fewBlocks
	flaws
)

// errorOf: by flaw.
var errorOf = [flaws]api.Errno{api.ErrArg, api.ErrArg, api.ErrShape, api.ErrEmpty, api.ErrLong, api.ErrToken, api.ErrArg, api.ErrArg, api.ErrLong, api.ErrFull}

// one of these numbers.
func one(s *testaid.Source, numbers ...int) int { return numbers[s.Below(len(numbers))] }

// otherPool: one whose layers or width are not the model's.
func otherPool(t *testing.T, s *testaid.Source, c api.Config, blocks int) *pool.Pool {
	t.Helper()
	layers, width := c.Layers, c.KV*c.Width/c.Heads
	if s.Below(2) == 0 {
		layers = layers%api.MaxLayers + 1
	} else {
		width += one(s, -1, 1)
	}
	p, e := pool.New(layers, width, blocks, 4)
	if e != api.OK {
		t.Fatalf("pool.New answered the error %d", e)
	}
	return p
}

// flawedPrompt: one with these flaws.
func flawedPrompt(s *testaid.Source, c api.Config, has func(flaw int) bool) []int {
	if has(noPrompt) {
		return [][]int{nil, {}}[s.Below(2)]
	}
	prompt := drawn(s, c, 1+s.Below(c.Len-2))
	if has(longPrompt) {
		prompt = drawn(s, c, c.Len+1+s.Below(3))
	}
	if has(badToken) {
		prompt[s.Below(len(prompt))] = one(s, -1, c.Vocab, math.MinInt, math.MaxInt)
	}
	return prompt
}

// flawedCall: Search with all flaws of a set answers the error of the first one, and leaves the pool as it is.
func flawedCall(t *testing.T, s *testaid.Source, l *teller, set int) {
	t.Helper()
	has := func(flaw int) bool { return set>>flaw&1 == 1 }
	c, m := l.w.Config, l.m
	prompt, n := flawedPrompt(s, c, has), 1+s.Below(api.MaxLive)
	most := 1 + s.Below(max(1, c.Len-len(prompt)))
	blocks := need(len(prompt), n, most, 4)
	if has(fewBlocks) {
		blocks--
	}
	p := poolOf(t, c, blocks, 4)
	if has(otherShape) {
		p = otherPool(t, s, c, blocks)
	}
	if has(badN) {
		n = one(s, 0, -1, api.MaxLive+1, math.MinInt, math.MaxInt)
	}
	if has(longTogether) {
		most = one(s, max(1, c.Len-len(prompt)+1), c.Len+1, math.MaxInt-len(prompt), math.MaxInt)
	}
	if has(badMost) {
		most = one(s, 0, -1, -c.Len, math.MinInt)
	}
	if has(noModel) {
		m = nil
	}
	if has(noPool) {
		p = nil
	}
	for flaw, want := range errorOf {
		if has(flaw) {
			refuses(t, m, p, prompt, n, most, want)
			break
		}
	}
	if p.Left() != blocks && p != nil {
		t.Errorf("P26.4: %d of %d blocks are free behind an error", p.Left(), blocks)
	}
}

// Each set of flaws: the first one tells.
func TestOrderOfErrors(t *testing.T) {
	s := testaid.Source(2610)
	for _, c := range small()[2:] {
		l := tellerOf(t, s.Lively(c))
		for set := 1; set < 1<<flaws; set++ {
			flawedCall(t, &s, l, set)
		}
	}
}

// Tokens at each place of a prompt, and of any size.
func TestTokens(t *testing.T) {
	s := testaid.Source(2611)
	for _, c := range small()[2:] {
		l := tellerOf(t, s.Lively(c))
		p := poolOf(t, c, 40, 16)
		for place := range c.Len - 1 {
			prompt := drawn(&s, c, c.Len-1)
			for _, token := range []int{-1, c.Vocab, c.Vocab + 1, -c.Vocab, 256, -256, math.MaxInt, math.MinInt} {
				prompt[place] = token
				refuses(t, l.m, p, prompt, 1, 1, api.ErrToken)
				refuses(t, l.m, p, prompt[:place+1], 17, 0, api.ErrToken)
			}
			for _, token := range []int{0, c.Vocab - 1} {
				prompt[place] = token
				l.finds(p, prompt, 1, 1, l.first(prompt, 1, 1))
			}
		}
	}
}

// How many continuations, of how many tokens: each number that may be, and those around.
func TestNumbers(t *testing.T) {
	l := ring(t)
	p := poolOf(t, l.w.Config, 256, 16)
	for _, bad := range []int{0, -1, -16, math.MinInt, math.MinInt + 1} {
		refuses(t, l.m, p, []int{1}, bad, 1, api.ErrArg)
		refuses(t, l.m, p, []int{1}, 1, bad, api.ErrArg)
	}
	for _, bad := range []int{17, 18, 256, 1 << 32, 1<<32 + 1, 1 << 62, math.MaxInt} {
		refuses(t, l.m, p, []int{1}, bad, 1, api.ErrArg)
		refuses(t, l.m, p, []int{1}, bad, math.MaxInt, api.ErrArg)
	}
	for long := 1; long <= 16; long++ {
		prompt := drawn(new(testaid.Source), l.w.Config, long)
		for _, more := range []int{1, 2, 100, 1 << 32, 1 << 62, math.MaxInt - 16} {
			refuses(t, l.m, p, prompt, 1, 16-long+more, api.ErrLong)
		}
		refuses(t, l.m, p, prompt, 1, math.MaxInt, api.ErrLong)
		for most := 1; most <= 16-long; most++ {
			for _, n := range []int{1, 2, 15, 16} {
				l.finds(p, prompt, n, most, l.first(prompt, n, most))
			}
		}
	}
	refuses(t, l.m, p, make([]int, 17), 0, 0, api.ErrLong)
	refuses(t, l.m, p, make([]int, 1<<20), 1, 1, api.ErrLong)
}

// A pool fits by its layers and its width alone.
func TestShapes(t *testing.T) {
	s := testaid.Source(2612)
	for _, c := range []api.Config{measures()[0], measures()[3], measures()[5]} {
		l := tellerOf(t, s.Lively(c))
		for layers := 1; layers <= api.MaxLayers; layers++ {
			for width := 1; width <= api.MaxWidth; width++ {
				p, e := pool.New(layers, width, 2, 16)
				if e != api.OK {
					t.Fatalf("pool.New answered the error %d", e)
				}
				if layers == c.Layers && width == c.KV*c.Width/c.Heads {
					l.finds(p, []int{1}, 1, 1, l.first([]int{1}, 1, 1))
				} else {
					refuses(t, l.m, p, nil, 0, 0, api.ErrShape)
					refuses(t, l.m, p, []int{1}, 1, 1, api.ErrShape)
				}
			}
		}
	}
}

// The free blocks are just enough, or one too few, whoever holds the others.
func TestFreeBlocks(t *testing.T) {
	s := testaid.Source(2613)
	for _, c := range small()[2:] {
		l := tellerOf(t, s.Tight(c))
		for range 40 {
			prompt, n := drawn(&s, c, 1+s.Below(c.Len-1)), 1+s.Below(api.MaxLive)
			most := 1 + s.Below(c.Len-len(prompt))
			fit := sizes(len(prompt), n, most)
			size := fit[s.Below(len(fit))]
			free := need(len(prompt), n, most, size)
			p := poolOf(t, c, free+s.Below(api.MaxBlocks-free+1), size)
			keep(t, &s, p, free)
			l.finds(p, prompt, n, most, l.first(prompt, n, most))
			if _, e := p.Take(); e != api.OK {
				t.Fatalf("Take answered the error %d", e)
			}
			refuses(t, l.m, p, prompt, n, most, api.ErrFull)
		}
	}
}
