package journal_test

import (
	"bytes"
	"math"
	"slices"
	"strings"
	"testing"

	"augur/api"
	"augur/journal"
	"augur/model"
	"augur/testaid"
)

// full: a diary over chapter 20's model in whose book each letter stands: two that were over, a live one with a kept token, and all calls.
func full(t *testing.T) *diary {
	t.Helper()
	d, _ := tiny(t)
	d.beginOver(ask(api.PNone, 1, 1), api.State{Status: api.Done, Tokens: []int{1}})
	d.beginLive(ask(api.PRaw, 6, 1, 2), []int{2})
	d.beginOver(ask(api.PNone, 1, 1), api.State{Status: api.Cancelled})
	d.submit(ask(api.PGram, 3, 2, 1, 2))
	d.offer(2, testaid.RawOf(-1, 1, 0, 2, -9, 1<<40))
	d.step(2, 4)
	d.submit(api.Ask{Prompt: []int{2}, New: 4, Params: api.Params{Temp: 300, TopP: 900, Penalty: 300, Seed: 1 << 63}, Guide: "(a|b)*"})
	d.step(4, 5, 2)
	d.step()
	d.cancel(4)
	d.step(2, 5)
	return d
}

// alike: two journals tell the same, and go on alike.
func alike(t *testing.T, what string, a, b *journal.Journal) {
	t.Helper()
	tells := func() {
		t.Helper()
		if !bytes.Equal(a.Book(), b.Book()) || !slices.Equal(a.Live(), b.Live()) {
			t.Fatalf("%s: the books are %v and %v, live %v and %v", what, a.Book(), b.Book(), a.Live(), b.Live())
		}
		for id, e := 1, api.OK; e == api.OK; id++ {
			x, f := a.Poll(id)
			y, g := b.Poll(id)
			if f != g || !testaid.SameState(x, y) {
				t.Fatalf("%s: request %d: %v, %d and %v, %d", what, id, x, f, y, g)
			}
			e = f
		}
	}
	tells()
	next := ask(api.PGram, 2, 1, 2, 1)
	one, e := a.Submit(next)
	if other, f := b.Submit(next); one != other || e != f {
		t.Fatalf("%s: the next number: %d, %d and %d, %d", what, one, e, other, f)
	}
	for range 3 {
		if x, y := a.Step(a.Live()...), b.Step(b.Live()...); !testaid.SameReport(x, y) {
			t.Fatalf("%s: %+v and %+v", what, x, y)
		}
		tells()
	}
}

// rights: of a book with such entries ahead the last is right, or not: then it is as if it were not there.
func (d *diary) rights(t *testing.T, what string, right bool, ahead [][]byte, last []byte) {
	t.Helper()
	good := slices.Concat(d.pages[0], slices.Concat(ahead...))
	behind := page('T', 0)
	book := slices.Concat(good, last, behind)
	if right {
		d.opens(t, what, book, len(book))
		return
	}
	alike(t, what, d.opens(t, what, book, len(good)), d.opens(t, what, good, len(good)))
}

// P21.7: Open of each first part of a book, and of it with bytes behind.
func TestFirstBytes(t *testing.T) {
	d := full(t)
	book := d.book()
	for most := range len(book) + 1 {
		pages, size := d.wholePages(most)
		j := d.opens(t, "P21.7", book[:most], size)
		d.first(max(pages, 1)).agree(t, "P21.8", j)
	}
	for _, behind := range [][]byte{{0}, {'S'}, {'T', 1, 0, 0, 0}, make([]byte, 1000), bytes.Repeat([]byte{255}, 1000), page('Z'), d.pages[0], book} {
		j := d.opens(t, "P21.7", slices.Concat(book, behind), len(book))
		d.agree(t, "P21.7: with more behind", j)
	}
}

// P21.8: Open of a whole book goes on as the journal.
func TestGoesOn(t *testing.T) {
	for n := range len(full(t).pages) {
		d := full(t)
		one := d.first(n + 1)
		j := d.opens(t, "P21.8", one.book(), len(one.book()))
		k := d.opens(t, "P21.8", j.Book(), len(j.Book()))
		alike(t, "P21.8", j, k)
		j.Compact()
		k.Compact()
		alike(t, "P21.8: behind a Compact", j, k)
	}
}

// What follows: a book in which one byte is another one, but for a length's, is good up to the entry in which it stands.
func TestOneByteWrong(t *testing.T) {
	d := full(t)
	book, at := d.book(), 0
	for i, p := range d.pages {
		for place := range p {
			for _, change := range []byte{1, 128, 255, 'H' ^ 'S', 'D' ^ 'L'} {
				wrong := slices.Clone(book)
				wrong[at+place] ^= change
				if place >= 1 && place <= 4 {
					j, n, e := journal.Open(d.m, d.v, d.c, wrong)
					if (j == nil) != (e != api.OK) || n > len(wrong) {
						t.Fatalf("R1: a length of entry %d: %d, %d", i, n, e)
					}
					continue
				}
				j := d.opens(t, "one byte is another", wrong, at)
				if b := j.Book(); !bytes.Equal(b, book[:max(at, len(d.pages[0]))]) {
					t.Fatalf("entry %d, byte %d: the book is %v", i, place, b)
				}
			}
		}
		at += len(p)
	}
}

// P21.7: a length that says more than there is, or more than any number of bytes.
func TestLengths(t *testing.T) {
	d, _ := tiny(t)
	for _, length := range [][]byte{{255, 255, 255, 255}, {0, 0, 0, 128}, {0, 0, 0, 1}, {27, 0, 0, 0}, {25, 0, 0, 0}} {
		for _, letter := range []byte("HSTZ\x00") {
			b := slices.Concat([]byte{letter}, length, d.pages[0][5:])
			d.opens(t, "P21.7: no entry is whole", b, 0)
			d.opens(t, "P21.7: no entry is whole", b[:5], 0)
			d.opens(t, "P21.7: the next entry is not whole", slices.Concat(d.pages[0], b), 39)
		}
	}
}

// P21.7: ErrBook, if a whole entry at the beginning is not just the H of this model, vocabulary and measures.
func TestErrBook(t *testing.T) {
	d := full(t)
	refuses := func(what string, m *model.Model, v api.Vocab, c api.Serve, book []byte) {
		t.Helper()
		if j, n, e := journal.Open(m, v, c, book); j != nil || n != 0 || e != api.ErrBook {
			t.Errorf("P21.7: %s: %d, %d, want %d", what, n, e, api.ErrBook)
		}
	}
	book := d.book()
	body := headBody(t, d.m, d.v, d.c)
	for _, b := range [][]byte{
		page('H'), page('H', body[:25]...), page('H', append(slices.Clone(body), 0)...), page('h', body...), page('Z'), page('S', askBody(ask(0, 1, 1))...), page('T', 0), page('D', 3, 0), d.pages[2],
	} {
		refuses("another entry", d.m, d.v, d.c, b)
		refuses("another entry ahead", d.m, d.v, d.c, slices.Concat(b, book))
	}
	for i := range body {
		other := slices.Clone(body)
		other[i] ^= 4
		refuses("another H", d.m, d.v, d.c, slices.Concat(page('H', other...), book[39:]))
	}
	for i, change := range []func(c *api.Serve){
		func(c *api.Serve) { c.Blocks++ }, func(c *api.Serve) { c.Block++ }, func(c *api.Serve) { c.Budget++ }, func(c *api.Serve) { c.Chunk++ }, func(c *api.Serve) { c.Tree++ }, func(c *api.Serve) { c.Budget += 256 },
		func(c *api.Serve) { c.Blocks = 256 },
	} {
		c := d.c
		change(&c)
		refuses("measures "+string(rune('0'+i)), d.m, d.v, c, book)
	}
	for _, v := range []api.Vocab{testaid.Vocab("ba"), testaid.Vocab("ac"), testaid.Vocab("a", [2]int{1, 1})} {
		refuses("another vocabulary", d.m, v, d.c, book)
	}
	for _, change := range []func(w *api.Weights){
		func(w *api.Weights) { w.Config.Len-- }, func(w *api.Weights) { w.Embed.Data = []int8{0, 0, 1, 0, 0, 2} }, func(w *api.Weights) { w.Turns[0].C++ }, func(w *api.Weights) { w.Layers[0].By[6]++ },
	} {
		w := testaid.Tiny()
		change(&w)
		refuses("another model", newModel(t, w), d.v, d.c, book)
	}
	// Two pairs that are not the same, and a base byte for a pair.
	w := testaid.Ring()
	m := newModel(t, w)
	one, other := testaid.Vocab("ab", [2]int{1, 2}), testaid.Vocab("ab", [2]int{2, 1})
	refuses("another pair", m, other, testaid.RingServe, newJournal(t, m, one, testaid.RingServe).Book())
	// The same model, loaded from its file, is the same.
	file, _ := model.Encode(testaid.Tiny())
	again, _ := model.Load(file)
	if _, n, e := journal.Open(again, testaid.TinyVocab(), testaid.TinyServe, book); n != len(book) || e != api.OK {
		t.Errorf("P21.7: the same model: %d, %d", n, e)
	}
}

// kinds: a right entry of each letter behind an H, an L of request 1, a PRaw, and an S of request 2.
func kinds() map[byte][]byte {
	return map[byte][]byte{
		'S': askBody(api.Ask{Prompt: []int{1, 2}, New: 3, Params: testaid.Greedy, Guide: "a*"}),
		'L': append(askBody(ask(api.PGram, 3, 2)), 2, 1, 2),
		'D': {3, 2, 0, 1},
		'O': offerBody(1, testaid.RawOf(-1, 1, 0, 2)),
		'T': append([]byte{2}, ids(1, 2)...),
		'X': ids(1),
	}
}

// P21.7: a body is just what the table says: not a byte less, not one more; and no other letter has it.
func TestBodiesJust(t *testing.T) {
	d, _ := tiny(t)
	live, asked := page('L', append(askBody(ask(api.PRaw, 3, 1)), 0)...), page('S', askBody(ask(api.PNone, 3, 1))...)
	for letter, body := range kinds() {
		ahead := [][]byte{live}
		if strings.ContainsRune("SOTX", rune(letter)) {
			ahead = append(ahead, asked)
		}
		d.rights(t, string(letter), true, ahead, page(letter, body...))
		for n := range body {
			d.rights(t, string(letter)+" with less", false, ahead, page(letter, body[:n]...))
		}
		for _, more := range []byte{0, 1, 255} {
			d.rights(t, string(letter)+" with more", false, ahead, page(letter, append(slices.Clone(body), more)...))
		}
		for other := range 256 {
			if byte(other) != letter {
				d.rights(t, string(letter)+" with another letter", false, ahead, page(byte(other), body...))
			}
		}
		wrong := page(letter, body...)
		wrong[len(wrong)-1] ^= 1
		d.rights(t, string(letter)+" with a wrong digest", false, ahead, wrong)
	}
	for other := range 256 {
		if byte(other) != 'H' {
			d.rights(t, "an empty body", false, [][]byte{live}, page(byte(other)))
		}
	}
}

// P21.7: which letters may stand behind which.
func TestOrder(t *testing.T) {
	d, _ := tiny(t)
	const letters = "HDLSOT"
	bodies := kinds()
	bodies['H'] = headBody(t, d.m, d.v, d.c)
	live := page('L', append(askBody(ask(api.PRaw, 3, 1)), 0)...)
	bodies['T'] = []byte{0}
	for _, list := range testaid.Lists(4, 0, 1, 2, 3, 4, 5) {
		book := slices.Concat(d.pages[0], live)
		good, calls, right := len(book), false, true
		for _, i := range list {
			letter := letters[i]
			p := page(letter, bodies[letter]...)
			book = append(book, p...)
			switch letter {
			case 'H':
				right = false
			case 'D', 'L':
				right = right && !calls
			default:
				calls = true
			}
			if right {
				good += len(p)
			}
		}
		d.opens(t, "P21.7: the order", book, good)
	}
	d.rights(t, "H behind H", false, nil, d.pages[0])
	// A cancelled one is behind the beginning too.
	d.rights(t, "D behind X", false, [][]byte{live, page('X', ids(1)...)}, page('D', 4, 0))
	d.rights(t, "L behind X", false, [][]byte{live, page('X', ids(1)...)}, live)
}

// P21.7: the asks of S and L are those that the engine accepts.
func TestAsksRight(t *testing.T) {
	d, _ := tiny(t)
	with := func(change func(a *api.Ask)) api.Ask {
		a := ask(api.PNone, 1, 1)
		change(&a)
		return a
	}
	guided := func(expr string) api.Ask { return with(func(a *api.Ask) { a.Guide = expr }) }
	params := func(p api.Params) api.Ask { return with(func(a *api.Ask) { a.Params = p }) }
	for i, c := range []struct {
		ask   api.Ask
		right bool
	}{
		{ask(api.PNone, 1, 1), true}, {ask(api.PRaw, 11, 2), true}, {ask(api.PBoth, 1, 0, 0, 0, 0, 0, 0, 0, 0, 0, 0, 0), true},
		{ask(api.PNone, 1), false}, {ask(api.PNone, 1, 3), false}, {ask(api.PNone, 1, 255), false}, {ask(api.PNone, 12, 1), false}, {ask(api.PNone, 255, 1), false}, {ask(api.PNone, 0, 1), false},
		{ask(5, 1, 1), false}, {ask(255, 1, 1), false}, {ask(api.PNone, 1, 1, 1, 1, 1, 1, 1, 1, 1, 1, 1, 1, 1), false},
		{params(api.Params{Temp: 4096, TopK: 64, TopP: 1, Penalty: 64, Seed: math.MaxUint64}), true}, {params(api.Params{TopP: 1000, Penalty: 1024}), true},
		{params(api.Params{Temp: 4097, TopP: 1, Penalty: 64}), false}, {params(api.Params{Temp: 65535, TopP: 1, Penalty: 64}), false}, {params(api.Params{TopK: 65, TopP: 1, Penalty: 64}), false},
		{params(api.Params{TopP: 0, Penalty: 64}), false}, {params(api.Params{TopP: 1001, Penalty: 64}), false}, {params(api.Params{TopP: 1, Penalty: 63}), false}, {params(api.Params{TopP: 1, Penalty: 1025}), false},
		{guided(strings.Repeat("a*", 32)), true}, {guided(strings.Repeat("a*", 32) + "a"), false}, {guided("("), false}, {guided("c"), false}, {guided("\x80"), false}, {guided("(a|b)*a(a|b)(a|b)(a|b)(a|b)(a|b)(a|b)"), false},
	} {
		what := "row " + string(rune('a'+i))
		d.rights(t, "S, "+what, c.right, nil, page('S', askBody(c.ask)...))
		d.rights(t, "L, "+what, c.right, nil, page('L', append(askBody(c.ask), 1, 2)...))
	}
}

// P21.7: at most MaxLive are live; those that are over are not counted.
func TestManyRight(t *testing.T) {
	d, _ := tiny(t)
	live, asked, over := page('L', append(askBody(ask(api.PNone, 1, 1)), 0)...), page('S', askBody(ask(api.PNone, 1, 1))...), page('D', 3, 0)
	var ahead [][]byte
	for range api.MaxLive {
		ahead = append(ahead, over)
		d.rights(t, "an L", true, ahead, live)
		d.rights(t, "an S", true, ahead, asked)
		ahead = append(ahead, live)
	}
	d.rights(t, "a 17th L", false, ahead, live)
	d.rights(t, "a D", true, ahead, over)
	d.rights(t, "a 17th S", false, ahead, asked)
	ahead = append(ahead, page('X', ids(32)...))
	d.rights(t, "an S for one that was cancelled", true, ahead, asked)
	ahead = append(ahead, asked)
	d.rights(t, "a 17th S", false, ahead, asked)
	d.rights(t, "an S for one that is done", true, append(ahead, stepPage(2)), asked)
}

// P21.7: a D's status, and the tokens of D and L.
func TestKeptRight(t *testing.T) {
	d, _ := tiny(t)
	for status := range 256 {
		d.rights(t, "a D's status", status == api.Done || status == api.Cancelled, nil, page('D', byte(status), 1, 2))
	}
	for token := range 256 {
		d.rights(t, "a D's token", token < 3, nil, page('D', 3, 2, 0, byte(token)))
		d.rights(t, "an L's token", token < 3, nil, page('L', append(askBody(ask(api.PNone, 1, 1)), 2, 0, byte(token))...))
	}
	for n := range 256 {
		tokens := append([]byte{byte(n)}, bytes.Repeat([]byte{1}, n)...)
		d.rights(t, "a D's tokens", n <= 64, nil, page('D', append([]byte{4}, tokens...)...))
		d.rights(t, "an L's tokens", n <= 64, nil, page('L', append(askBody(ask(api.PNone, 1, 1)), tokens...)...))
	}
}

// strangers: numbers of nobody where there were so many requests.
func strangers(n uint64) []uint64 {
	return []uint64{0, n + 1, 1 << 32, 1 << 63, math.MaxUint64, math.MaxUint64 - 1, n + 1<<8, n + 1<<16, n + 1<<31, n + 1<<32, n + 1<<63}
}

// P21.7: each number of an O, a T or an X is that of a live request; those of a T rise; the engine accepts an O.
func TestNumbersRight(t *testing.T) {
	d, _ := tiny(t)
	raw := page('S', askBody(ask(api.PRaw, 3, 1))...)
	// 1 was over, 2 is a PRaw, 3 is none, 4 is cancelled, 5 is Done, 6 is a PRaw.
	ahead := [][]byte{
		page('D', 3, 0), page('L', append(askBody(ask(api.PRaw, 3, 1)), 0)...), page('S', askBody(ask(api.PNone, 3, 1))...), raw, page('S', askBody(ask(api.PNone, 1, 1))...), raw, page('X', ids(4)...), stepPage(5),
	}
	for _, id := range append(strangers(6), 1, 4, 5) {
		d.rights(t, "an O of nobody", false, ahead, page('O', offerBody(id, nil)...))
		d.rights(t, "an X of nobody", false, ahead, page('X', ids(id)...))
		d.rights(t, "a T of nobody", false, ahead, stepPage(id))
		d.rights(t, "a T of somebody and nobody", false, ahead, stepPage(2, id))
		d.rights(t, "a T of nobody and somebody", false, ahead, stepPage(id, 2))
	}
	for _, id := range []uint64{2, 3, 6} {
		d.rights(t, "an O", id != 3, ahead, page('O', offerBody(id, testaid.RawOf(-1, 1))...))
		d.rights(t, "an X", true, ahead, page('X', ids(id)...))
		d.rights(t, "a second X", false, append(slices.Clone(ahead), page('X', ids(id)...)), page('X', ids(id)...))
		d.rights(t, "a T behind an X", false, append(slices.Clone(ahead), page('X', ids(id)...)), stepPage(id))
	}
	for _, list := range testaid.Lists(4, 2, 3, 6) {
		rising, numbers := true, []uint64(nil)
		for i, id := range list {
			rising = rising && (i == 0 || id > list[i-1])
			numbers = append(numbers, uint64(id))
		}
		d.rights(t, "a T", rising, ahead, stepPage(numbers...))
	}
	for n := range 99 {
		d.rights(t, "an O's nodes", n <= api.MaxRaw, ahead, page('O', offerBody(6, make([]api.RawNode, n))...))
	}
	for _, count := range [][]byte{{255, 255, 255, 255}, {0, 0, 0, 1}, {0, 0, 0, 128}, {1, 0, 0, 16}} {
		d.rights(t, "an O with too few nodes", false, ahead, page('O', slices.Concat(ids(6), count, make([]byte, 16))...))
	}
	d.rights(t, "a T with too few numbers", false, ahead, page('T', append([]byte{255}, ids(2, 3)...)...))
}

// P21.7: an O's numbers are any: what is ill made is the tree's matter, and is as ill made when it is read again.
func TestAnyNodes(t *testing.T) {
	d, j := tiny(t)
	a := ask(api.PRaw, 9, 1)
	for i, raw := range [][]api.RawNode{
		testaid.RawOf(math.MinInt, math.MaxInt, -1, 1, math.MaxInt, math.MinInt, 1, 1, 3, 1, -2, 1),
		testaid.RawOf(-1, 1, 1<<32, 1, 1<<32, 2), testaid.RawOf(-1, 1, 0, 1<<32+1, 0, 1<<8+2), testaid.RawOf(-1, 1, 1<<32-1, 2, 1<<16-1, 2, 1<<8-1, 2),
	} {
		id := i + 1
		d.submit(a)
		asks(t, j, id, a)
		d.offer(id, raw)
		is(t, "P21.3", j.Offer(id, raw), api.OK)
		k := d.opens(t, "P21.8", j.Book(), len(j.Book()))
		want := d.step(id)
		if len(want.Did) != 1 || want.Did[0].Accepted < 1 {
			t.Fatalf("the offer %v is not taken: %+v", raw, want)
		}
		for _, journal := range []*journal.Journal{j, k} {
			if r := journal.Step(id); !testaid.SameReport(r, want) {
				t.Fatalf("P21.8: %v: %+v, want %+v", raw, r, want)
			}
			d.agree(t, "P21.8", journal)
		}
	}
}

// drawnPage: an entry with a right digest: one of a book, or one of it with some bytes of its body or its letter changed, left out or put in.
func drawnPage(s *testaid.Source, d *diary) []byte {
	p := d.pages[1+s.Below(len(d.pages)-1)]
	letter, body := p[0], slices.Clone(p[5:len(p)-8])
	for range s.Below(3) {
		at := s.Below(len(body) + 1)
		switch s.Below(4) {
		case 0:
			body = slices.Insert(body, at, byte(s.Below(4)))
		case 1:
			body = body[:at]
		case 2:
			letter = "HDLSOTX"[s.Below(7)]
		default:
			if at < len(body) {
				body[at] = byte(s.Below(256))
			}
		}
	}
	return page(letter, body...)
}

// R1, P21.7, P21.8: of any book: what is good of it is the journal's book, and that is good as a whole.
func TestAnyBooks(t *testing.T) {
	s := testaid.Source(3)
	d := full(t)
	good := 0
	for range 3000 {
		book := slices.Concat(d.pages[:1+s.Below(len(d.pages))]...)
		first := len(book)
		for range s.Below(12) {
			book = slices.Concat(book, drawnPage(&s, d))
		}
		j, n, e := journal.Open(d.m, d.v, d.c, book)
		if j == nil || e != api.OK || n < first || n > len(book) || !bytes.Equal(j.Book(), book[:n]) {
			t.Fatalf("P21.7: Open of %v: %d, %d", book, n, e)
		}
		good += n - first
		j.Compact()
		alike(t, "P21.8", j, d.opens(t, "P21.8", j.Book(), len(j.Book())))
		alike(t, "P21.8", d.opens(t, "P21.8", book, n), d.opens(t, "P21.8", book[:n], n))
	}
	if good < 20000 {
		t.Errorf("only %d bytes were good", good)
	}
}
