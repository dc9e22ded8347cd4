package journal_test

import (
	"bytes"
	"slices"
	"testing"

	"augur/api"
	"augur/testaid"
)

// P21.6: the book has an entry for each request; Live tells what it told, and Poll too, but that who was Running is Waiting; the next number is the next one.
func TestCompact(t *testing.T) {
	d, j := tiny(t)
	for id, a := range []api.Ask{ask(api.PNone, 4, 1, 1, 1, 1, 1), ask(api.PNone, 8, 2), ask(api.PNone, 1, 1), ask(api.PNone, 2, 1), ask(api.PNone, 3, 2, 1)} {
		asks(t, j, id+1, a)
	}
	for range 3 {
		j.Step(1, 2, 3, 5)
	}
	is(t, "Cancel", j.Cancel(2), api.OK)
	var before []api.State
	for id := 1; id <= 5; id++ {
		s, _ := j.Poll(id)
		before = append(before, s)
	}
	if before[0].Status != api.Running || before[1].Status != api.Cancelled || before[2].Status != api.Done || before[3].Status != api.Waiting || len(before[0].Tokens) == 0 || len(before[1].Tokens) == 0 {
		t.Fatalf("the requests tell too little: %v", before)
	}
	live := j.Live()
	j.Compact()
	if !slices.Equal(j.Live(), live) {
		t.Errorf("P21.6: live: %v, want %v", j.Live(), live)
	}
	book := d.pages[0]
	for i, s := range before {
		if s.Status == api.Running {
			s.Status = api.Waiting
		}
		polls(t, j, i+1, s.Status, s.Tokens...)
	}
	for i, letter := range []byte("LDDLL") {
		at := len(book)
		rest := j.Book()[at:]
		size := 13 + int(little.Uint32(rest[1:]))
		if rest[0] != letter {
			t.Fatalf("P21.6: entry %d is %c, want %c", i, rest[0], letter)
		}
		book = slices.Concat(book, rest[:size])
	}
	if !bytes.Equal(book, j.Book()) {
		t.Errorf("P21.6: more than one entry for each request")
	}
	j.Compact()
	if !bytes.Equal(book, j.Book()) {
		t.Errorf("P21.6: a second Compact: %v, want %v", j.Book(), book)
	}
	alike(t, "P21.6", j, d.opens(t, "P21.6", book, len(book)))
	if _, e := j.Poll(6); e != api.OK {
		t.Errorf("P21.6: the next number is not the next one")
	}
}

// P21.6: of a journal without requests.
func TestCompactEmpty(t *testing.T) {
	d, j := tiny(t)
	j.Step(1)
	j.Compact()
	d.agree(t, "P21.6", j)
	asks(t, j, 1, ask(api.PNone, 1, 1))
}

// P21.6: blocks, gauges and offers that were not taken are gone; the reports of later steps tell tokens that were told before.
func TestCompactForgets(t *testing.T) {
	m := newModel(t, testaid.Ring())
	j := newJournal(t, m, testaid.RingVocab(), testaid.RingServe)
	steps := func(want api.Did) {
		t.Helper()
		if r := j.Step(want.Id); !testaid.SameReport(r, api.Report{Did: []api.Did{want}, Slots: want.Prefill + want.Nodes}) {
			t.Fatalf("P21.4: %+v, want %+v", r, want)
		}
	}
	offers := func(tokens ...int) {
		t.Helper()
		is(t, "P21.3", j.Offer(2, testaid.RawOf(tokens...)), api.OK)
	}
	asks(t, j, 1, ask(api.PNone, 1, 1))
	steps(api.Did{Id: 1, Nodes: 1, Tokens: []int{2}})
	asks(t, j, 2, ask(api.PRaw, 9, 1, 2, 3, 1, 2, 3))
	for _, n := range []int{2, 2, 1} {
		steps(api.Did{Id: 2, Prefill: n})
	}
	offers(-1, 1, 0, 2, 1, 3, 2, 1)
	steps(api.Did{Id: 2, Nodes: 4, Accepted: 3, Tokens: []int{1, 2, 3, 1}})
	offers(-1, 2, 0, 3, 1, 1, 2, 2, 3, 3)
	polls(t, j, 2, api.Running, 1, 2, 3, 1)
	j.Compact()
	polls(t, j, 2, api.Waiting, 1, 2, 3, 1)
	// What was kept of its prompt is gone, the gauge's first size is 4 again.
	for _, n := range []int{2, 2, 1} {
		steps(api.Did{Id: 2, Prefill: n})
		polls(t, j, 2, api.Running, 1, 2, 3, 1)
	}
	steps(api.Did{Id: 2, Nodes: 1, Tokens: []int{1}})
	offers(-1, 2, 0, 3, 1, 1, 2, 2, 3, 3)
	polls(t, j, 2, api.Running, 1, 2, 3, 1)
	steps(api.Did{Id: 2, Nodes: 4, Accepted: 3, Tokens: []int{2, 3, 1, 2}})
	polls(t, j, 2, api.Running, 1, 2, 3, 1, 2)
	is(t, "Cancel", j.Cancel(2), api.OK)
	polls(t, j, 2, api.Cancelled, 1, 2, 3, 1, 2)
}

// P21.5: kept tokens stand in the place of fewer ones, whatever they are, also of a request that is over by now; and a Compact writes what Poll tells.
func TestKept(t *testing.T) {
	m := newModel(t, testaid.Ring())
	d := newDiary(t, m, testaid.RingVocab(), testaid.RingServe)
	a := ask(api.PNone, 2, 1)
	long := make([]int, 64)
	for i := range long {
		long[i] = i % 4
	}
	d.beginOver(a, api.State{Status: api.Done, Tokens: long})
	d.beginLive(a, long)           // 2: more than it will ever answer
	d.beginLive(a, []int{3, 3})    // 3: as many, which are not Ref's
	d.beginLive(a, []int{3, 3, 3}) // 4: one more
	d.beginLive(a, nil)            // 5
	d.beginLive(a, []int{1})       // 6: it is cancelled ahead of any step
	j := d.opens(t, "P21.7", d.book(), len(d.book()))
	tells := func(status int, told ...[]int) {
		t.Helper()
		polls(t, j, 1, api.Done, long...)
		for i, tokens := range told {
			polls(t, j, i+2, status, tokens...)
		}
	}
	tells(api.Waiting, long, []int{3, 3}, []int{3, 3, 3}, nil, []int{1})
	is(t, "Cancel", j.Cancel(6), api.OK)
	polls(t, j, 6, api.Cancelled, 1)
	j.Step(2, 3, 4, 5)
	tells(api.Running, long, []int{3, 3}, []int{3, 3, 3}, []int{2})
	j.Step(2, 3, 4, 5)
	tells(api.Done, long, []int{2, 3}, []int{3, 3, 3}, []int{2, 3})
	j.Compact()
	tells(api.Done, long, []int{2, 3}, []int{3, 3, 3}, []int{2, 3})
	polls(t, j, 6, api.Cancelled, 1)
	if len(j.Live()) != 0 {
		t.Errorf("P21.5: live: %v", j.Live())
	}
	want := slices.Concat(d.pages[0], page('D', append([]byte{3}, short(long...)...)...), page('D', append([]byte{3}, short(long...)...)...), page('D', 3, 2, 2, 3), page('D', 3, 3, 3, 3, 3), page('D', 3, 2, 2, 3), page('D', 4, 1, 1))
	if !bytes.Equal(j.Book(), want) {
		t.Errorf("P21.6: %v, want %v", j.Book(), want)
	}
	asks(t, j, 7, a)
}
