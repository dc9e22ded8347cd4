package journal_test

import (
	"bytes"
	"math"
	"slices"
	"strings"
	"testing"

	"augur/api"
	"augur/engine"
	"augur/journal"
	"augur/model"
	"augur/testaid"
)

// tiny: a diary over chapter 20's model, and a journal.
func tiny(t *testing.T) (*diary, *journal.Journal) {
	t.Helper()
	m := newModel(t, testaid.Tiny())
	return newDiary(t, m, testaid.TinyVocab(), testaid.TinyServe), newJournal(t, m, testaid.TinyVocab(), testaid.TinyServe)
}

// ask: a greedy one.
func ask(kind, fresh int, prompt ...int) api.Ask {
	return api.Ask{Prompt: prompt, New: fresh, Params: testaid.Greedy, Proposer: kind}
}

// asks: an ask that is accepted with this number.
func asks(t *testing.T, j *journal.Journal, want int, a api.Ask) {
	t.Helper()
	if id, e := j.Submit(a); id != want || e != api.OK {
		t.Fatalf("P21.2: Submit(%+v): %d, %d, want %d", a, id, e, want)
	}
}

func polls(t *testing.T, j *journal.Journal, id, status int, tokens ...int) {
	t.Helper()
	if s, e := j.Poll(id); e != api.OK || !testaid.SameState(s, api.State{Status: status, Tokens: tokens}) {
		t.Fatalf("P21.5: Poll(%d): %v, %d, want %d, %v", id, s, e, status, tokens)
	}
}

// grows: a call behind which just these bytes more stand in the book.
func grows(t *testing.T, j *journal.Journal, call func(), more ...byte) {
	t.Helper()
	want := append(j.Book(), more...)
	call()
	if b := j.Book(); !bytes.Equal(b, want) {
		t.Fatalf("the book is %v, want %v", b, want)
	}
}

func is(t *testing.T, what string, got, want api.Errno) {
	t.Helper()
	if got != want {
		t.Errorf("%s: %d, want %d", what, got, want)
	}
}

// The chapter's examples 1 to 4.
func TestExamples(t *testing.T) {
	d, j := tiny(t)
	if n := len(j.Book()); n != 39 {
		t.Errorf("example 1: the H has %d bytes", n)
	}
	asks(t, j, 1, ask(api.PNone, 2, 1, 1, 1))
	if n := len(j.Book()); n != 39+35 {
		t.Errorf("example 1: the S has %d bytes", n-39)
	}
	grows(t, j, func() { j.Submit(ask(api.PNone, 0, 1)) })
	grows(t, j, func() { j.Step(7, 1, 1) }, page('T', 1, 1, 0, 0, 0, 0, 0, 0, 0)...)
	grows(t, j, func() { j.Step() }, page('T', 0)...)
	if n := len(j.Book()); n != 39+35+22+14 {
		t.Errorf("example 1: the book has %d bytes", n)
	}
	grows(t, j, func() {
		is(t, "example 2: Offer(2)", j.Offer(2, nil), api.ErrRequest)
		is(t, "example 2: Cancel(2)", j.Cancel(2), api.ErrRequest)
		_, e := j.Poll(2)
		is(t, "example 2: Poll(2)", e, api.ErrRequest)
	})
	grows(t, j, func() { is(t, "example 2: Cancel(1)", j.Cancel(1), api.OK) }, page('X', 1, 0, 0, 0, 0, 0, 0, 0)...)
	grows(t, j, func() { is(t, "example 2: Cancel(1)", j.Cancel(1), api.ErrRequest) })
	book := j.Book()
	if len(book) != 110+21 {
		t.Errorf("example 2: the book has %d bytes", len(book))
	}
	d.opens(t, "example 3", book, 131)
	live := d.opens(t, "example 3", book[:130], 110)
	if !slices.Equal(live.Live(), []int{1}) {
		t.Errorf("example 3: live: %v", live.Live())
	}
	for _, n := range []int{0, 38} {
		if k := d.opens(t, "example 3", book[:n], 0); !bytes.Equal(k.Book(), book[:39]) || len(k.Live()) != 0 {
			t.Errorf("example 3: Open of %d bytes: %v", n, k.Book())
		}
	}
	other := testaid.TinyServe
	other.Tree++
	if k, n, e := journal.Open(d.m, d.v, other, book); k != nil || n != 0 || e != api.ErrBook {
		t.Errorf("example 3: other measures: %d, %d", n, e)
	}
	j.Compact()
	if want := append(book[:39:39], page('D', 4, 0)...); !bytes.Equal(j.Book(), want) {
		t.Errorf("example 4: %v, want %v", j.Book(), want)
	}
	polls(t, j, 1, api.Cancelled)
	asks(t, j, 2, ask(api.PNone, 1, 1))
}

// The table of letters, byte by byte: an H of a vocabulary with a pair, S, O, T, X, and behind a Compact D and L.
func TestBytes(t *testing.T) {
	w := testaid.Tiny()
	m := newModel(t, w)
	file, _ := model.Encode(w)
	c := api.Serve{Blocks: 256, Block: 7, Budget: 1023, Chunk: 258, Tree: 32}
	j := newJournal(t, m, testaid.Vocab("z", [2]int{1, 1}), c)
	head := ids(fnv1a(file), fnv1a([]byte{1, 'z', 1, 1, 1}))
	head = append(head, 0, 1, 7, 0, 255, 3, 2, 1, 32, 0)
	if want := page('H', head...); !bytes.Equal(j.Book(), want) {
		t.Fatalf("P21.1: %v, want %v", j.Book(), want)
	}
	a := api.Ask{Prompt: []int{1, 2, 0}, New: 9, Params: api.Params{Temp: 0x0f02, TopK: 64, TopP: 0x03e7, Penalty: 0x0400, Seed: 0x8877665544332211}, Proposer: api.PRaw, Guide: "z*"}
	body := []byte{3, 1, 2, 0, 9, 0x02, 0x0f, 64, 0xe7, 0x03, 0x00, 0x04, 0x11, 0x22, 0x33, 0x44, 0x55, 0x66, 0x77, 0x88, 4, 2, 'z', '*'}
	grows(t, j, func() { asks(t, j, 1, a) }, page('S', body...)...)
	grows(t, j, func() { asks(t, j, 2, a) }, page('S', body...)...)
	raw := testaid.RawOf(-1, 1, 0, -0x0102030405060708)
	offer := []byte{2, 0, 0, 0, 0, 0, 0, 0, 2, 0, 0, 0, 255, 255, 255, 255, 255, 255, 255, 255, 1, 0, 0, 0, 0, 0, 0, 0, 0, 0, 0, 0, 0, 0, 0, 0, 0xf8, 0xf8, 0xf9, 0xfa, 0xfb, 0xfc, 0xfd, 0xfe}
	grows(t, j, func() { is(t, "P21.3", j.Offer(2, raw), api.OK) }, page('O', offer...)...)
	grows(t, j, func() { is(t, "P21.3", j.Offer(2, nil), api.OK) }, page('O', 2, 0, 0, 0, 0, 0, 0, 0, 0, 0, 0, 0)...)
	grows(t, j, func() { j.Step(2, 1) }, page('T', 2, 1, 0, 0, 0, 0, 0, 0, 0, 2, 0, 0, 0, 0, 0, 0, 0)...)
	grows(t, j, func() { j.Step(2) }, page('T', 1, 2, 0, 0, 0, 0, 0, 0, 0)...)
	grows(t, j, func() { is(t, "P21.3", j.Cancel(1), api.OK) }, page('X', 1, 0, 0, 0, 0, 0, 0, 0)...)
	two, _ := j.Poll(2)
	if len(two.Tokens) != 1 || two.Status != api.Running {
		t.Fatalf("request 2 has one token: %v", two)
	}
	j.Compact()
	live := append(slices.Clone(body), 1, byte(two.Tokens[0]))
	if want := slices.Concat(page('H', head...), page('D', 4, 0), page('L', live...)); !bytes.Equal(j.Book(), want) {
		t.Errorf("P21.6: %v, want %v", j.Book(), want)
	}
	asks(t, j, 3, ask(api.PNone, 1, 1))
	j.Step(3)
	one, _ := j.Poll(3)
	j.Compact()
	if want := slices.Concat(page('H', head...), page('D', 4, 0), page('L', live...), page('D', 3, 1, byte(one.Tokens[0]))); !bytes.Equal(j.Book(), want) {
		t.Errorf("P21.6: %v, want %v", j.Book(), want)
	}
}

// P21.1: New refuses what engine.New refuses, with its error.
func TestNew(t *testing.T) {
	m := newModel(t, testaid.Tiny())
	few := testaid.TinyServe
	few.Blocks = 5
	type try struct {
		m *model.Model
		v api.Vocab
		c api.Serve
	}
	tries := []try{
		{nil, testaid.TinyVocab(), testaid.TinyServe}, {nil, api.Vocab{}, few}, {m, testaid.Vocab("abc"), few},
		{m, testaid.TinyVocab(), few}, {m, testaid.TinyVocab(), api.Serve{}}, {m, testaid.Vocab("a", [2]int{1, 1}), testaid.TinyServe},
	}
	for _, v := range testaid.WrongVocabs() {
		tries = append(tries, try{m, v, testaid.TinyServe})
	}
	for i, c := range tries {
		_, want := engine.New(c.m, c.v, c.c)
		if j, e := journal.New(c.m, c.v, c.c); e != want || (j == nil) != (want != api.OK) {
			t.Errorf("P21.1: row %d: %d, want %d", i, e, want)
		}
		// Whatever the book is, that comes first.
		for _, book := range [][]byte{nil, page('Z'), {'H'}} {
			j, n, e := journal.Open(c.m, c.v, c.c, book)
			if want != api.OK && (j != nil || n != 0 || e != want) {
				t.Errorf("P21.7: row %d: %d, %d, want %d", i, n, e, want)
			}
		}
	}
	j := newJournal(t, m, testaid.TinyVocab(), testaid.TinyServe)
	if len(j.Live()) != 0 {
		t.Errorf("P21.1: live: %v", j.Live())
	}
	for _, id := range []int{0, 1, -1, math.MinInt, math.MaxInt} {
		if s, e := j.Poll(id); e != api.ErrRequest || !testaid.SameState(s, api.State{}) {
			t.Errorf("P21.5: Poll(%d): %v, %d", id, s, e)
		}
	}
}

// P21.2: the engine's errors; what is refused has no number and no entry.
func TestSubmitRefuses(t *testing.T) {
	_, j := tiny(t)
	with := func(change func(a *api.Ask)) api.Ask {
		a := ask(api.PNone, 1, 1)
		change(&a)
		return a
	}
	for i, c := range []struct {
		ask  api.Ask
		want api.Errno
	}{
		{api.Ask{}, api.ErrEmpty},
		{with(func(a *api.Ask) { a.Prompt = make([]int, 1<<20) }), api.ErrLong},
		{with(func(a *api.Ask) { a.Prompt = []int{3} }), api.ErrToken},
		{with(func(a *api.Ask) { a.Prompt = []int{-1} }), api.ErrToken},
		{with(func(a *api.Ask) { a.Prompt = []int{256} }), api.ErrToken},
		{with(func(a *api.Ask) { a.New = 257 }), api.ErrLong},
		{with(func(a *api.Ask) { a.New = math.MaxInt }), api.ErrLong},
		{with(func(a *api.Ask) { a.Proposer = 256 }), api.ErrArg},
		{with(func(a *api.Ask) { a.Params.Temp = 65536 }), api.ErrParams},
		{with(func(a *api.Ask) { a.Guide = "(" }), api.ErrRegex},
		{with(func(a *api.Ask) { a.Guide = strings.Repeat("a", 257) }), api.ErrRegex},
		{with(func(a *api.Ask) { a.Guide = "c" }), api.ErrGuide},
	} {
		grows(t, j, func() {
			if id, e := j.Submit(c.ask); id != 0 || e != c.want {
				t.Errorf("P21.2: row %d: %d, %d, want %d", i, id, e, c.want)
			}
		})
	}
	asks(t, j, 1, ask(api.PNone, 1, 1))
}

// P21.2: MaxLive requests are live at most; those that are over do not count, before and behind a Compact and an Open.
func TestMany(t *testing.T) {
	d, j := tiny(t)
	full := func(next int) {
		t.Helper()
		grows(t, j, func() {
			if id, e := j.Submit(ask(api.PNone, 1, 1)); id != 0 || e != api.ErrMany {
				t.Fatalf("P21.2: a 17th live one: %d, %d", id, e)
			}
		})
		j.Step(next - 3)
		polls(t, j, next-3, api.Done, 1)
		asks(t, j, next, ask(api.PNone, 1, 1))
	}
	for i := range api.MaxLive {
		asks(t, j, i+1, ask(api.PNone, 1, 1))
	}
	full(17)
	j.Compact()
	full(18)
	j = d.opens(t, "P21.8", j.Book(), len(j.Book()))
	full(19)
	if want := []int{1, 2, 3, 4, 5, 6, 7, 8, 9, 10, 11, 12, 13, 17, 18, 19}; !slices.Equal(j.Live(), want) {
		t.Errorf("P21.5: live: %v, want %v", j.Live(), want)
	}
}

// P21.3: the errors in their order; a refused call leaves the book alone.
func TestOfferCancelRefuse(t *testing.T) {
	_, j := tiny(t)
	many := make([]api.RawNode, api.MaxRaw+1)
	for range 3 {
		for kind := range 5 {
			id, e := j.Submit(ask(kind, 3, 1, 2))
			is(t, "P21.2", e, api.OK)
			want, long := api.ErrArg, api.ErrArg
			if kind == api.PRaw {
				want, long = api.OK, api.ErrTree
			}
			grows(t, j, func() { is(t, "P21.3: too many nodes", j.Offer(id, many), long) })
			is(t, "P21.3: Offer", j.Offer(id, many[:api.MaxRaw]), want)
			is(t, "P21.3: Offer", j.Offer(id, nil), want)
		}
		last, _ := j.Submit(ask(api.PRaw, 1, 1))
		is(t, "P21.3: Cancel", j.Cancel(last), api.OK)
		grows(t, j, func() {
			for _, id := range []int{0, -1, last, last + 1, math.MinInt, math.MaxInt} {
				is(t, "P21.3: Offer to nobody", j.Offer(id, many), api.ErrRequest)
				is(t, "P21.3: Cancel of nobody", j.Cancel(id), api.ErrRequest)
			}
		})
		// Numbers of the journal and of the engine are not the same any more.
		j.Compact()
		is(t, "P21.3: Offer to one that was over", j.Offer(last, nil), api.ErrRequest)
		is(t, "P21.3: Cancel of one that was over", j.Cancel(last), api.ErrRequest)
		for _, id := range j.Live()[1:] {
			j.Cancel(id)
		}
	}
}

// P21.4: of the picks each live one's number once, rising; the report tells the journal's numbers.
func TestSteps(t *testing.T) {
	_, j := tiny(t)
	asks(t, j, 1, ask(api.PNone, 1, 1))
	asks(t, j, 2, ask(api.PNone, 3, 1, 2))
	asks(t, j, 3, ask(api.PNone, 3, 2))
	j.Step(1)
	polls(t, j, 1, api.Done, 1)
	j.Compact()
	grows(t, j, func() {
		r := j.Step(3, math.MinInt, 1, 3, 2, 4, 3, 0, -2, 1<<32+2, math.MaxInt, 2)
		want := api.Report{Did: []api.Did{{Id: 2, Prefill: 1}, {Id: 3, Nodes: 1, Tokens: []int{2}}}, Slots: 2}
		if !testaid.SameReport(r, want) {
			t.Errorf("P21.4: %+v, want %+v", r, want)
		}
	}, stepPage(2, 3)...)
	many := make([]int, 1<<20)
	many[1<<19] = 3
	grows(t, j, func() { j.Step(many...) }, stepPage(3)...)
	grows(t, j, func() {
		if r := j.Step(1, 4, 0); !testaid.SameReport(r, api.Report{}) {
			t.Errorf("P21.4: %+v", r)
		}
	}, stepPage()...)
}

// P21.4: those that are out are told with the journal's numbers, too.
func TestOut(t *testing.T) {
	m := newModel(t, testaid.Ring())
	j := newJournal(t, m, testaid.RingVocab(), api.Serve{Blocks: 4, Block: 4, Budget: 16, Chunk: 8, Tree: 1})
	asks(t, j, 1, ask(api.PNone, 1, 1))
	asks(t, j, 2, ask(api.PNone, 1, 1))
	is(t, "Cancel", j.Cancel(1), api.OK)
	is(t, "Cancel", j.Cancel(2), api.OK)
	j.Compact()
	asks(t, j, 3, ask(api.PNone, 4, 1, 1, 1, 1, 1, 1, 1, 1, 1, 1, 1, 1))
	asks(t, j, 4, ask(api.PNone, 9, 2, 2, 2, 2, 2))
	j.Step(4)
	j.Step(4)
	polls(t, j, 4, api.Running, 3)
	j.Step(3)
	r := j.Step(3)
	if !testaid.SameReport(r, api.Report{Did: []api.Did{{Id: 3, Prefill: 3}}, Out: []int{4}, Slots: 3}) {
		t.Errorf("P21.4: %+v", r)
	}
	polls(t, j, 4, api.Waiting, 3)
}

// R3: of a nil journal.
func TestNil(t *testing.T) {
	var j *journal.Journal
	if id, e := j.Submit(ask(api.PNone, 1, 1)); id != 0 || e != api.ErrArg {
		t.Errorf("R3: Submit: %d, %d", id, e)
	}
	is(t, "R3: Offer", j.Offer(1, make([]api.RawNode, 99)), api.ErrArg)
	is(t, "R3: Cancel", j.Cancel(1), api.ErrArg)
	if s, e := j.Poll(1); e != api.ErrArg || !testaid.SameState(s, api.State{}) {
		t.Errorf("R3: Poll: %v, %d", s, e)
	}
	if r := j.Step(1, 2); !testaid.SameReport(r, api.Report{}) {
		t.Errorf("R3: Step: %+v", r)
	}
	if len(j.Live()) != 0 || len(j.Book()) != 0 {
		t.Errorf("R3: Live: %v, Book: %v", j.Live(), j.Book())
	}
	j.Compact()
}
