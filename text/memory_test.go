package text_test

import (
	"testing"

	"augur/api"
	"augur/testaid"
	"augur/text"
)

// letters: those of the drawn streams here.
const letters = "ab\xe2\x82\xac"

// What is handed in stays, and the room behind it; if it is refused too.
func TestArgumentsStay(t *testing.T) {
	source := testaid.Source(226)
	for i := range 600 {
		plain := source.Vocab(letters, source.Below(10))
		if i%5 == 0 {
			plain = testaid.WrongVocabs()[i/5%14]
		}
		v := api.Vocab{Base: testaid.Roomy(plain.Base, 'a'), Pairs: testaid.Roomy(plain.Pairs, [2]int{1, 1})}
		stops := testaid.Roomy(someStops(&source, letters), "ab")
		if i%7 == 0 {
			stops = testaid.Roomy(append(stops, ""), "ab")
		}
		tokens := testaid.Roomy([]int{1, 1, source.Below(4), 1, 0}, 1)
		same := []func() bool{testaid.Guard(v.Base), testaid.Guard(v.Pairs), testaid.Guard(stops), testaid.Guard(tokens)}
		if s, e := text.New(v, stops...); e == api.OK {
			b, _ := s.Feed(tokens[:2]...)
			testaid.Overwrite(b, 'x')
			b, _ = s.Feed(tokens...)
			testaid.Overwrite(b, 'x')
			testaid.Overwrite(s.Close(), 'x')
		}
		for at, is := range same {
			if !is() {
				t.Fatalf("P18.5: argument %d changed, or the room behind it", at)
			}
		}
	}
}

// What was handed in may be written over behind the call.
func TestNothingIsKept(t *testing.T) {
	source := testaid.Source(227)
	for range 600 {
		plain := source.Vocab(letters, source.Below(10))
		stops := someStops(&source, letters)
		v := api.Vocab{Base: testaid.Roomy(plain.Base, 'a'), Pairs: testaid.Roomy(plain.Pairs, [2]int{1, 1})}
		list := testaid.Roomy(stops, "ab")
		p := pair{made(t, v, list...), &told{v: plain, stops: stops}}
		testaid.Overwrite(v.Base, 'z')
		testaid.Overwrite(v.Pairs, [2]int{2, 1})
		testaid.Overwrite(list, "b")
		for range 6 {
			tokens := testaid.Roomy(someTokens(&source, plain, source.Below(4), true), 1)
			p.feed(t, tokens...)
			testaid.Overwrite(tokens, 1)
		}
		p.close(t)
	}
}

// Answers written into, their room too, change nothing: not what waits, not one another.
func TestAnswersAreApart(t *testing.T) {
	source := testaid.Source(228)
	for range 1000 {
		v := source.Vocab(letters, source.Below(10))
		stops := someStops(&source, letters)
		s, w := made(t, v, stops...), &told{v: v, stops: stops}
		var answers [][]byte
		var want []string
		for range 8 {
			tokens := someTokens(&source, v, source.Below(4), true)
			b, e := s.Feed(tokens...)
			if e != api.OK {
				t.Fatalf("P18.2: Feed(%v): %d", tokens, e)
			}
			answers, want = append(answers, b), append(want, w.feed(t, tokens...))
			if source.Below(2) == 0 { // the room behind an answer is nobody's
				_ = append(b, "zzzzzzzzzzzzzzzzzzzzzzzz"...)
				testaid.Overwrite(b[len(b):], 'z')
			}
		}
		answers, want = append(answers, s.Close()), append(want, w.close(t))
		for i, b := range answers {
			if string(b) != want[i] {
				t.Fatalf("P18.5: answer %d is %q, want %q", i, b, want[i])
			}
			testaid.Overwrite(b, 'z') // the later ones must not be seen to change
		}
		feeds(t, s, "", true, 1)
	}
}

// An answer that is written over as soon as it comes changes nothing of what comes later.
func TestAnswersWrittenOver(t *testing.T) {
	source := testaid.Source(229)
	for range 1000 {
		v := source.Vocab(letters, source.Below(10))
		stops := someStops(&source, letters)
		s, w := made(t, v, stops...), &told{v: v, stops: stops}
		for range 12 {
			tokens := someTokens(&source, v, source.Below(3), false)
			want := w.feed(t, tokens...)
			b, _ := s.Feed(tokens...)
			if string(b) != want {
				t.Fatalf("P18.5: stops %q, %q came: %q, want %q", stops, w.came, b, want)
			}
			testaid.Overwrite(b, 'z')
		}
		closes(t, s, w.close(t))
	}
}

// Two streams know nothing of one another: of the same vocabulary and the same stops, fed by turns.
func TestStreamsAreApart(t *testing.T) {
	source := testaid.Source(230)
	for range 500 {
		v := source.Vocab(letters, source.Below(10))
		stops := someStops(&source, letters)
		several := []pair{paired(t, v, stops...), paired(t, v, stops...), paired(t, v)}
		for range 20 {
			several[source.Below(3)].feed(t, someTokens(&source, v, source.Below(3), true)...)
			if source.Below(20) == 0 {
				several[source.Below(3)].close(t)
			}
		}
		for _, p := range several {
			p.close(t)
		}
	}
}

// What was asked in between changes nothing: Over, a Feed of nothing, one that is refused.
func TestQuestionsChangeNothing(t *testing.T) {
	source := testaid.Source(231)
	for range 500 {
		v := source.Vocab(letters, source.Below(10))
		p := paired(t, v, someStops(&source, letters)...)
		for range 12 {
			fails(t, p.s, api.ErrToken, 1, 0, testaid.Tokens(v))
			p.feed(t)
			p.feed(t, someTokens(&source, v, 1, true)...)
			p.s.Over()
			fails(t, p.s, api.ErrToken, -1)
		}
		p.close(t)
	}
}
