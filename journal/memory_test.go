package journal_test

import (
	"bytes"
	"slices"
	"testing"

	"augur/api"
	"augur/journal"
	"augur/testaid"
)

// stays: the call leaves a list and the room behind it as they are; then they are written over.
func stays[T comparable](t *testing.T, list []T, mark T, call func()) {
	t.Helper()
	same := testaid.Guard(list)
	call()
	if !same() {
		t.Fatalf("P21.9: what was handed in was changed, or the room behind it: %v", list[:cap(list)])
	}
	testaid.Overwrite(list, mark)
}

// spoilAnswers: of all calls that tell.
func (p *play) spoilAnswers() {
	testaid.Spoil(p.j.Live(), 99)
	testaid.Spoil(p.j.Book(), 99)
	for i := range p.d.rows {
		state, _ := p.j.Poll(i + 1)
		testaid.Spoil(state.Tokens, 99)
	}
}

// spoilt: a call in which each list that was handed in or answered is written over behind it.
func (p *play) spoilt() {
	p.t.Helper()
	rawMark := api.RawNode{Parent: 77, Token: 78}
	switch p.Below(8) {
	case 0, 1:
		a := p.Ask()
		p.d.submit(a)
		a.Prompt = testaid.Roomy(a.Prompt, 1)
		stays(p.t, a.Prompt, 1, func() { p.j.Submit(a) })
	case 2:
		for _, id := range p.d.lives() {
			raw := testaid.Roomy(p.Raw(p.next(id)), rawMark)
			p.d.offer(id, raw)
			stays(p.t, raw, rawMark, func() { p.j.Offer(id, raw) })
		}
	case 3:
		p.compact()
	case 4:
		book := testaid.Roomy(p.j.Book(), 99)
		stays(p.t, book, 99, func() { p.j = p.d.opens(p.t, "P21.8", book, len(book)) })
	default:
		picks := testaid.Roomy(p.picks(), 1)
		want := p.d.step(picks...)
		stays(p.t, picks, 1, func() {
			r := p.j.Step(picks...)
			if !testaid.SameReport(r, want) {
				p.t.Fatalf("P21.4: %+v, want %+v", r, want)
			}
			testaid.SpoilReport(r)
		})
	}
}

// P21.9: whatever is written over what was handed in and answered, everything goes on as the words say.
func TestNothingShared(t *testing.T) {
	s := testaid.Source(16)
	for range 60 {
		p := newPlay(t, &s)
		for range 60 {
			p.spoilt()
			p.spoilAnswers()
			p.d.agree(t, "P21.9", p.j)
		}
		p.end()
	}
}

// P21.9: the vocabulary that was handed in is neither changed nor kept: a Compact has the one that it was.
func TestVocabNotKept(t *testing.T) {
	m := newModel(t, testaid.Tiny())
	for _, open := range []bool{false, true} {
		v := api.Vocab{Base: testaid.Roomy([]byte("a"), 'x'), Pairs: testaid.Roomy([][2]int{{1, 1}}, [2]int{7, 7})}
		own := testaid.Vocab("a", [2]int{1, 1})
		book := newJournal(t, m, own, testaid.TinyServe).Book()
		var j *journal.Journal
		stays(t, v.Base, 'x', func() {
			stays(t, v.Pairs, [2]int{7, 7}, func() {
				if j = newJournal(t, m, v, testaid.TinyServe); open {
					j, _, _ = journal.Open(m, v, testaid.TinyServe, book)
				}
			})
		})
		guided := ask(api.PNone, 9, 1)
		guided.Guide = "a*"
		asks(t, j, 1, guided)
		j.Step()
		j.Compact()
		if want := append(book, page('L', append(askBody(guided), 0)...)...); !bytes.Equal(j.Book(), want) || !slices.Equal(j.Live(), []int{1}) {
			t.Fatalf("P21.9: behind a Compact: %v, want %v, live %v", j.Book(), want, j.Live())
		}
		guided.Guide = "x*b"
		if _, e := j.Submit(guided); e != api.ErrGuide {
			t.Errorf("P21.9: %d", e)
		}
	}
}

// R5: two answers share nothing; kept tokens are not shared with those who open, poll or compact.
func TestAnswersApart(t *testing.T) {
	d := full(t)
	book := d.book()
	j := d.opens(t, "P21.8", book, len(book))
	testaid.Overwrite(book, 0)
	one, _ := j.Poll(1)
	testaid.Spoil(one.Tokens, 99)
	polls(t, j, 1, api.Done, 1)
	j.Compact()
	one, _ = j.Poll(1)
	testaid.Spoil(one.Tokens, 99)
	polls(t, j, 1, api.Done, 1)
	a, b := j.Book(), j.Book()
	testaid.Spoil(a, 7)
	if !bytes.Equal(b, j.Book()) {
		t.Error("R5: the book is shared")
	}
}

// P21.9: two journals know nothing of one another, also where both were opened of one book.
func TestTwoJournals(t *testing.T) {
	d := full(t)
	book := d.book()
	one, other := d.opens(t, "P21.8", book, len(book)), d.opens(t, "P21.8", book, len(book))
	other.Submit(ask(api.PNone, 1, 1))
	other.Step(other.Live()...)
	other.Cancel(2)
	other.Compact()
	d.agree(t, "P21.9", one)
	alike(t, "P21.9", one, d.opens(t, "P21.8", book, len(book)))
}
