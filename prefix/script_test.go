package prefix_test

import (
	"fmt"
	"maps"
	"math"
	"slices"
	"strings"
	"testing"

	"augur/api"
	"augur/pool"
	"augur/prefix"
	"augur/testaid"
)

// entry: a known beginning's block, and when it was used last.
type entry struct{ block, used int }

// book: a cache as the chapter's words tell it, by texts; the counts are those of all who share the pool.
type book struct {
	size  int
	known map[string]entry
	count []int
	now   int
}

// spelt: tokens as a text; that of a beginning is a beginning of it, and of no other.
func spelt(tokens []int) string {
	out := ""
	for _, token := range tokens {
		out += fmt.Sprint(token, ".")
	}
	return out
}

// beginnings: those of some tokens, the shortest first.
func (b *book) beginnings(tokens []int) []string {
	var list []string
	for n := b.size; n <= len(tokens); n += b.size {
		list = append(list, spelt(tokens[:n]))
	}
	return list
}

func (b *book) use(text string) {
	e := b.known[text]
	e.used = b.now
	b.known[text] = e
}

func (b *book) find(tokens []int) []int {
	b.now++
	var list []int
	for _, text := range b.beginnings(tokens) {
		e, is := b.known[text]
		if !is {
			break
		}
		list = append(list, e.block)
		b.use(text)
	}
	return list
}

func (b *book) isInUse(block int) bool {
	return block >= 0 && block < len(b.count) && b.count[block] > 0
}

func (b *book) keep(tokens, blocks []int) api.Errno {
	texts := b.beginnings(tokens)
	if len(blocks) < len(texts) {
		return api.ErrBlock
	}
	var taken []int
	for _, e := range b.known {
		taken = append(taken, e.block)
	}
	for i, text := range texts {
		if !b.isInUse(blocks[i]) {
			return api.ErrBlock
		}
		if _, is := b.known[text]; is {
			continue
		}
		if slices.Contains(taken, blocks[i]) {
			return api.ErrBlock
		}
		taken = append(taken, blocks[i])
	}
	b.now++
	for i, text := range texts {
		if _, is := b.known[text]; !is {
			b.known[text] = entry{block: blocks[i]}
			b.count[blocks[i]]++
		}
		b.use(text)
	}
	return api.OK
}

func (b *book) mayGo(text string) bool {
	for other := range b.known {
		if other != text && strings.HasPrefix(other, text) {
			return false
		}
	}
	return b.count[b.known[text].block] == 1
}

func (b *book) shrink(t *testing.T, n int) int {
	t.Helper()
	for went := 0; ; went++ {
		var may []string
		for _, text := range slices.Sorted(maps.Keys(b.known)) {
			if b.mayGo(text) {
				may = append(may, text)
			}
		}
		if went >= n || len(may) == 0 {
			return max(went, 0)
		}
		slices.SortStableFunc(may, func(x, y string) int { return b.known[x].used - b.known[y].used })
		if len(may) > 1 && b.known[may[0]].used == b.known[may[1]].used {
			t.Fatalf("what follows: %s and %s may go and were last used by the same call", may[0], may[1])
		}
		b.count[b.known[may[0]].block]--
		delete(b.known, may[0])
	}
}

// scene: a pool, caches over it and their books, and somebody who takes, holds and drops beside them.
type scene struct {
	s      testaid.Source
	p      *pool.Pool
	caches []*prefix.Cache
	books  []*book
	count  []int
	hands  []int
}

func newScene(t *testing.T, seed int) *scene {
	t.Helper()
	s := testaid.Source(seed)
	blocks, size := 1+s.Below(12), 1+s.Below(3)
	p, e := pool.New(1, 1, blocks, size)
	if e != api.OK {
		t.Fatal(e)
	}
	w := &scene{s: s, p: p, count: make([]int, blocks)}
	for range 1 + seed%2 {
		w.caches = append(w.caches, prefix.New(p))
		w.books = append(w.books, &book{size: size, known: map[string]entry{}, count: w.count})
	}
	return w
}

// text: of few kinds of tokens, so that many begin alike.
func (w *scene) text() []int {
	tokens := make([]int, w.s.Below(5*w.books[0].size+1))
	for i := range tokens {
		tokens[i] = []int{0, 0, 0, 1, 1, math.MinInt, math.MaxInt}[w.s.Below(7)]
	}
	return tokens
}

// blocks: for most of the time some that somebody holds, no two alike; now and then one of them is any number near the pool's.
func (w *scene) blocks() []int {
	var list []int
	for range 8 {
		if len(w.hands) > 0 {
			block := w.hands[w.s.Below(len(w.hands))]
			if !slices.Contains(list, block) {
				list = append(list, block)
			}
		}
	}
	if w.s.Below(4) == 0 && len(list) > 0 {
		list[w.s.Below(len(list))] = w.s.Below(len(w.count)+2) - 1
	}
	return list
}

// aside: somebody takes, holds or drops a block.
func (w *scene) aside(t *testing.T) {
	t.Helper()
	switch at := w.s.Below(max(1, len(w.hands))); {
	case w.s.Below(2) == 0:
		block, e := w.p.Take()
		if e == api.OK {
			w.hands = append(w.hands, block)
			w.count[block]++
		}
	case len(w.hands) == 0:
	case w.s.Below(4) == 0:
		block := w.hands[at]
		w.p.Hold(block)
		w.hands = append(w.hands, block)
		w.count[block]++
	default:
		w.drop(t, at)
	}
}

func (w *scene) drop(t *testing.T, at int) {
	t.Helper()
	drops(t, w.p, w.hands[at])
	w.count[w.hands[at]]--
	w.hands = slices.Delete(w.hands, at, at+1)
}

// act does one call, drawn, of a cache and of its book; it answers what both said.
func (w *scene) act(t *testing.T) (what string, got, want []int) {
	t.Helper()
	at := w.s.Below(len(w.caches))
	c, b := w.caches[at], w.books[at]
	switch w.s.Below(8) {
	case 0, 1:
		tokens := w.text()
		return fmt.Sprint("Find ", at, tokens), c.Find(tokens), b.find(tokens)
	case 2, 3:
		tokens, blocks := w.text(), w.blocks()
		return fmt.Sprint("Keep ", at, tokens, blocks), []int{int(c.Keep(tokens, blocks))}, []int{int(b.keep(tokens, blocks))}
	case 4:
		n := []int{math.MinInt, -1, 0, 1, 1, 1, 1, 1, 2, 2, 3, math.MaxInt}[w.s.Below(12)]
		return fmt.Sprint("Shrink ", at, n), []int{c.Shrink(n)}, []int{b.shrink(t, n)}
	default:
		w.aside(t)
		return "another's call", nil, nil
	}
}

func (w *scene) check(t *testing.T, what string) {
	t.Helper()
	if got := counts(w.p); !slices.Equal(got, w.count) {
		t.Fatalf("%s: counts %v, want %v", what, got, w.count)
	}
	for at, c := range w.caches {
		if c.Len() != len(w.books[at].known) {
			t.Fatalf("P7.5: %s: Len %d, want %d", what, c.Len(), len(w.books[at].known))
		}
	}
}

// Calls of all kinds, right and wrong, one behind the other: behind each of them the pool and the caches tell what the chapter's words say.
func TestScripts(t *testing.T) {
	for seed := range 300 {
		w := newScene(t, seed)
		for step := range 300 {
			what, got, want := w.act(t)
			what = fmt.Sprintf("seed %d, step %d: %s", seed, step, what)
			if !slices.Equal(got, want) {
				t.Fatalf("%s: %v, want %v", what, got, want)
			}
			w.check(t, what)
		}
		for len(w.hands) > 0 {
			w.drop(t, 0)
		}
		for range w.count {
			for at, c := range w.caches {
				if got, want := c.Shrink(1), w.books[at].shrink(t, 1); got != want {
					t.Fatalf("seed %d: in the end Shrink(1): %d, want %d", seed, got, want)
				}
				w.check(t, fmt.Sprintf("seed %d: in the end", seed))
			}
		}
		if len(w.caches) == 1 && (w.p.Left() != len(w.count) || w.caches[0].Len() != 0) {
			t.Fatalf("what follows: seed %d: in the end %d of %d blocks are free, Len %d", seed, w.p.Left(), len(w.count), w.caches[0].Len())
		}
	}
}

// What follows: what Keep made known is found as long as nobody calls Shrink; of fewer tokens a first part is; and the cache holds each of its blocks once.
func TestKeptIsFound(t *testing.T) {
	for seed := range 40 {
		s := testaid.Source(seed)
		size := 1 + s.Below(4)
		p, c := made(t, api.MaxBlocks, size)
		table := pool.NewTable(p)
		if e := table.Grow(api.MaxBlocks * size); e != api.OK {
			t.Fatal(e)
		}
		blocks := table.Blocks()
		var texts, found [][]int
		for range 60 {
			text := make([]int, s.Below(6*size))
			for i := range text {
				text[i] = s.Below(2)
			}
			at := s.Below(len(blocks))
			if c.Keep(text, slices.Concat(blocks[at:], blocks[:at])) != api.OK {
				continue
			}
			texts, found = append(texts, text), append(found, c.Find(text))
			for i, text := range texts {
				finds(t, c, text, found[i]...)
				if len(found[i]) != len(text)/size {
					t.Fatalf("what follows: kept %v, found %v", text, found[i])
				}
				fewer := s.Below(len(text) + 1)
				finds(t, c, text[:fewer], found[i][:fewer/size]...)
			}
		}
		if len(texts) < 10 {
			t.Fatalf("seed %d: %d texts were kept", seed, len(texts))
		}
		held := 0
		for block, count := range counts(p) {
			if count > 2 {
				t.Fatalf("what follows: block %d is held %d times", block, count)
			}
			held += count - 1
		}
		known(t, "as many as are held", c, held)
		table.Trim(0)
		shrinks(t, c, math.MaxInt, held)
		if p.Left() != api.MaxBlocks || c.Len() != 0 {
			t.Fatalf("what follows: %d blocks are free, Len %d", p.Left(), c.Len())
		}
	}
}

// Where others drop what they do not hold nothing is promised, but that every call ends and none panics.
func TestOthersDropTooOften(t *testing.T) {
	for seed := range 60 {
		w := newScene(t, seed)
		for range 300 {
			c := w.caches[w.s.Below(len(w.caches))]
			switch w.s.Below(6) {
			case 0:
				c.Find(w.text())
			case 1, 2:
				c.Keep(w.text(), w.blocks())
			case 3:
				c.Shrink(w.s.Below(4))
			case 4:
				if block, e := w.p.Take(); e == api.OK {
					w.hands = append(w.hands, block)
				}
			case 5:
				w.p.Drop(w.s.Below(len(w.count)))
			}
		}
	}
}
