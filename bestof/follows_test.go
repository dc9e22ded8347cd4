package bestof_test

import (
	"slices"
	"testing"

	"augur/api"
	"augur/testaid"
)

// Of a greedy ask all answers are alike; judged by the engine's own model, with Penalty 256 and no guide, they have no gap.
func TestGreedyAlike(t *testing.T) {
	s := testaid.Source(2820)
	over := 0
	for range 60 {
		w, v := s.Small()
		if s.Below(2) == 0 {
			w = s.Tight(w.Config)
		}
		m := newModel(t, w)
		a := s.Asker(w.Config).Ask()
		a.Params, a.Guide = testaid.Greedy, ""
		a.Params.Seed = s.Next()
		ref, e := testaid.Ref(m, v, a)
		if e != api.OK {
			t.Fatalf("Ref answered the error %d", e)
		}
		g, n := newEngine(t, m, v, s.Serve(w.Config.Len)), 1+s.Below(api.MaxLive)
		b := started(t, g, m, a, n)
		finish(t, g)
		isOver := ref[len(ref)-1] == 0
		tells(t, b, slices.Repeat([]api.Beam{{Tokens: ref, Over: isOver}}, n)...)
		if isOver {
			over++
		}
	}
	if over < 5 || over > 55 {
		t.Errorf("%d of 60 answers are over", over)
	}
}

// With a guide, or a penalty, greedy answers are alike as well, but may have gaps.
func TestGreedyWithGaps(t *testing.T) {
	m, g := ring(t)
	guided := greedily(9, 1)
	guided.Guide = "b*"
	b := started(t, g, m, guided, 3)
	finish(t, g)
	// Behind 2 only 2 and 0 may come, of which the ring likes neither.
	tells(t, b, slices.Repeat([]api.Beam{{Tokens: []int{2, 0}, Gap: 12700, Over: true}}, 3)...)
	s, gaps := testaid.Source(2823), 0
	for range 40 {
		w, v := s.Small()
		j := judgeOf(t, s.Tight(w.Config))
		shy := s.Asker(w.Config).Ask()
		shy.Params, shy.Guide = testaid.Greedy, ""
		shy.Params.Penalty = 1024
		g := newEngine(t, j.m, v, s.Serve(w.Config.Len))
		b, l := lotOf(t, g, j, shy, 3)
		finish(t, g)
		l.agrees("P28.4", b, g)
		list, _ := b.Best()
		if !sameBeams(list[:1], list[1:2]) || !sameBeams(list[:1], list[2:]) {
			t.Errorf("what follows: %v", list)
		}
		if list[0].Gap > 0 {
			gaps++
		}
	}
	if gaps < 5 || gaps > 35 {
		t.Errorf("%d of 40 have gaps", gaps)
	}
}

// Behind Ready Best tells always the same, whatever the engine does.
func TestAlwaysTheSame(t *testing.T) {
	s := testaid.Source(2821)
	told := 0
	for range 20 {
		p := newPlay(t, &s)
		was := map[int][]api.Beam{}
		errors := map[int]api.Errno{}
		for range 120 {
			p.act()
			for i, b := range p.batches {
				if !b.Ready() {
					continue
				}
				got, e := b.Best()
				if want, known := was[i]; known && (e != errors[i] || !sameBeams(got, want)) {
					t.Fatalf("what follows: Best = %v, %d, was %v, %d", got, e, want, errors[i])
				}
				was[i], errors[i] = got, e
			}
		}
		told += len(was)
	}
	if told < 60 {
		t.Errorf("only %d batches were ready", told)
	}
}

// Each answer is what its seed is answered alone, over any engine of the model (W1, W6); none is missing.
func TestAsAlone(t *testing.T) {
	s := testaid.Source(2822)
	for range 40 {
		w, v := s.Small()
		j := judgeOf(t, w)
		a := s.Asker(w.Config).Ask()
		a.Params.Seed = -(s.Next() % 16)
		n := 1 + s.Below(api.MaxLive)
		var want []api.Beam
		for i := range n {
			ref, e := testaid.Ref(j.m, v, of(a, i))
			if e != api.OK {
				t.Fatalf("Ref answered the error %d", e)
			}
			want = append(want, j.beam(a.Prompt, ref))
		}
		for range 3 {
			g := newEngine(t, j.m, v, s.Serve(w.Config.Len))
			b := started(t, g, j.m, a, n)
			finish(t, g)
			tells(t, b, ordered(want)...)
		}
	}
}
