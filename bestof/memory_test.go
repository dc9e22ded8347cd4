package bestof_test

import (
	"math"
	"reflect"
	"runtime"
	"slices"
	"testing"

	"augur/api"
	"augur/bestof"
	"augur/testaid"
)

// spoil writes all over what Ids and Best answer.
func spoil(b *bestof.Batch) {
	testaid.Spoil(b.Ids(), 99)
	list, _ := b.Best()
	for _, x := range list {
		testaid.Spoil(x.Tokens, 99)
	}
	testaid.Spoil(list, api.Beam{Tokens: []int{77}, Gap: 78, Over: true})
}

// P28.5: whatever is written over what was handed in and answered, everything goes on as the words say.
func TestNothingShared(t *testing.T) {
	s := testaid.Source(2850)
	for range 30 {
		p := newPlay(t, &s)
		a, n, j := p.Ask(), 1+s.Below(9), p.judges[2*s.Below(2)]
		kept := slices.Clone(a.Prompt)
		a.Prompt = testaid.Roomy(a.Prompt, 1)
		same := testaid.Guard(a.Prompt)
		b := started(t, p.under, j.m, a, n)
		spoil(b)
		if !same() {
			t.Fatalf("P28.5: the prompt was changed, or the room behind it: %v", a.Prompt)
		}
		testaid.Overwrite(a.Prompt, 1)
		l := &lot{judge: j, ask: a}
		l.ask.Prompt = kept
		for i := range n {
			l.ids = append(l.ids, i+1)
		}
		for range 60 {
			p.under.Step(p.under.Live()...)
			l.agrees("P28.5", b, p.under)
			spoil(b)
			l.agrees("P28.5", b, p.under)
		}
		for i := range n {
			ref, _ := testaid.Ref(p.judges[0].m, p.vocab, of(l.ask, i))
			if s, e := p.under.Poll(i + 1); e != api.OK || s.Status == api.Done && !slices.Equal(s.Tokens, ref) {
				t.Fatalf("P28.5: request %d: %v, %d, want %v", i+1, s, e, ref)
			}
		}
	}
}

// The prompt that answers are judged behind is what it was at Start.
func TestPromptNotKept(t *testing.T) {
	m, g := ring(t)
	prompt := []int{2, 1}
	b := started(t, g, m, greedily(2, prompt...), 2)
	prompt[0], prompt[1] = 3, 3
	finish(t, g)
	tells(t, b, likeliest(2, 3), likeliest(2, 3))
	prompt[0], prompt[1] = 4, -1
	tells(t, b, likeliest(2, 3), likeliest(2, 3))
}

// A prompt stays also where it is refused, and its own tokens are all that is looked at.
func TestPromptStays(t *testing.T) {
	m, g := ring(t)
	for _, a := range append(faulty(), greedily(3, 1, 2)) {
		if len(a.Prompt) > 100 {
			continue
		}
		a.Prompt = testaid.Roomy(a.Prompt, 77)
		same := testaid.Guard(a.Prompt)
		for _, n := range []int{0, 1, 17} {
			bestof.Start(g, m, a, n)
			bestof.Start(nil, m, a, n)
			bestof.Start(g, nil, a, n)
		}
		if !same() {
			t.Errorf("P28.5: the prompt was changed, or the room behind it: %v", a.Prompt)
		}
	}
	finish(t, g)
	text := []int{1, 2, 3, 4, -1}
	b := started(t, g, m, greedily(1, text[:3]...), 1)
	finish(t, g)
	tells(t, b, likeliest(1))
	refuses(t, g, m, greedily(1, text[:4]...), 1, api.ErrToken)
	refuses(t, g, m, greedily(1, text[:0]...), 1, api.ErrEmpty)
}

// R5: the lists of one answer are each one's own, as those of two answers are.
func TestListsApart(t *testing.T) {
	m, g := ring(t)
	b := started(t, g, m, greedily(3, 1), 5)
	finish(t, g)
	list, _ := b.Best()
	again, _ := b.Best()
	for i, x := range list {
		if !slices.Equal(x.Tokens, []int{2, 3, 1}) {
			t.Fatalf("R5: answer %d is %v by now", i, x)
		}
		testaid.Spoil(x.Tokens, 99)
	}
	testaid.Spoil(list, api.Beam{})
	for i, x := range again {
		if !slices.Equal(x.Tokens, []int{2, 3, 1}) || x.Gap != 0 || x.Over {
			t.Fatalf("R5: answer %d of another list is %v by now", i, x)
		}
	}
	ids, more := b.Ids(), b.Ids()
	testaid.Spoil(ids, 99)
	if !slices.Equal(more, []int{1, 2, 3, 4, 5}) {
		t.Fatalf("R5: the numbers are %v by now", more)
	}
	tells(t, b, slices.Repeat([]api.Beam{likeliest(2, 3, 1)}, 5)...)
}

// What was told stays, whatever comes later.
func TestToldStays(t *testing.T) {
	g := levelEngine(t)
	j := judgeOf(t, level())
	b := started(t, g, j.m, byChance(7, 9, 1), 12)
	var told, copies [][]api.Beam
	for len(g.Live()) > 0 {
		g.Step(g.Live()...)
		list, _ := b.Best()
		var copied []api.Beam
		for _, x := range list {
			x.Tokens = slices.Clone(x.Tokens)
			copied = append(copied, x)
		}
		told, copies = append(told, list), append(copies, copied)
	}
	for i := range told {
		if !sameBeams(told[i], copies[i]) {
			t.Errorf("R5: told was %v, which is %v by now", copies[i], told[i])
		}
	}
}

// R6: batches over one engine, or over two, know nothing of one another, though they have one judge and one prompt.
func TestBatchesApart(t *testing.T) {
	m, g := ring(t)
	_, other := ring(t)
	prompt := []int{1}
	one, two := started(t, g, m, greedily(2, prompt...), 2), started(t, g, m, greedily(3, prompt...), 3)
	far := started(t, other, m, greedily(4, prompt...), 4)
	isMadeOf(t, one, 1, 2)
	isMadeOf(t, two, 3, 4, 5)
	isMadeOf(t, far, 1, 2, 3, 4)
	finish(t, other)
	isReady(t, far, true)
	isReady(t, one, false)
	tells(t, one)
	for range 2 {
		g.Step(1, 2, 4)
	}
	isReady(t, one, true)
	isReady(t, two, false)
	tells(t, one, likeliest(2, 3), likeliest(2, 3))
	tells(t, two)
	g.Step(4)
	tells(t, two, likeliest(2, 3, 1))
	tells(t, far, slices.Repeat([]api.Beam{likeliest(2, 3, 1, 2)}, 4)...)
}

// The judge is not changed by judging.
func TestJudgeStays(t *testing.T) {
	s := testaid.Source(2851)
	for range 10 {
		w, v := s.Small()
		m := newModel(t, w)
		g := newEngine(t, m, v, s.Serve(w.Config.Len))
		b := started(t, g, m, s.Asker(w.Config).Ask(), 4)
		finish(t, g)
		spoil(b)
		if !reflect.DeepEqual(m.Weights(), newModel(t, w).Weights()) {
			t.Error("P28.5: the model was changed")
		}
	}
}

// spent: how many bytes of memory a call takes.
func spent(call func()) uint64 {
	var before, after runtime.MemStats
	runtime.ReadMemStats(&before)
	call()
	runtime.ReadMemStats(&after)
	return after.TotalAlloc - before.TotalAlloc
}

// R1: what is too long or too many is found out by its length, ahead of any other work.
func TestLongArguments(t *testing.T) {
	m, g := ring(t)
	long, guided := greedily(1, make([]int, 1<<20)...), greedily(1, 1)
	guided.Guide = string(make([]byte, 1<<20))
	for what, call := range map[string]func(){
		"a prompt of 2^20 tokens":  func() { refuses(t, g, m, long, 16, api.ErrLong) },
		"a guide of 2^20 bytes":    func() { refuses(t, g, m, guided, 16, api.ErrRegex) },
		"2^63 - 1 requests":        func() { refuses(t, g, m, long, math.MaxInt, api.ErrMany) },
		"so many that are refused": func() { refuses(t, g, m, long, 1<<40, api.ErrMany) },
	} {
		if n := spent(call); n > 1<<16 {
			t.Errorf("R1: %s took %d bytes", what, n)
		}
	}
}
