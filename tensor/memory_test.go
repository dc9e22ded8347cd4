package tensor_test

import (
	"slices"
	"testing"

	"augur/api"
	"augur/tensor"
	"augur/testaid"
)

func unchanged(t *testing.T, what string, guards ...func() bool) {
	t.Helper()
	for i, kept := range guards {
		if !kept() {
			t.Errorf("%s changed argument %d or its spare room", what, i)
		}
	}
}

func TestMatVecMemory(t *testing.T) {
	s := source(20)
	m, v := s.matrix(4, 4), testaid.Roomy(s.narrow(4, -128), 77)
	m.Data = testaid.Roomy(m.Data, 77)
	guards := []func() bool{testaid.Guard(m.Data), testaid.Guard(v)}
	out, _ := tensor.MatVec(m, v)
	unchanged(t, "MatVec", guards...)
	want := slices.Clone(out)
	testaid.Overwrite(m.Data, 1)
	testaid.Overwrite(v, 1)
	same(t, "MatVec's answer, once the arguments were written over", out, want)
	guards = []func() bool{testaid.Guard(m.Data), testaid.Guard(v)}
	testaid.Overwrite(out, 5)
	unchanged(t, "writing over MatVec's answer", guards...)
	kept := testaid.Guard(m.Data)
	tensor.Check(m)
	unchanged(t, "Check", kept)
}

func TestNormMemory(t *testing.T) {
	s := source(21)
	x, gains := testaid.Roomy(s.wide(9), 77), testaid.Roomy(s.narrow(9, -128), 77)
	guards := []func() bool{testaid.Guard(x), testaid.Guard(gains)}
	out, _ := tensor.Norm(x, gains)
	wide, _ := tensor.Narrow(x, 3)
	if _, e := tensor.Dot(gains, gains); e != api.OK {
		t.Errorf("Dot: error %d", e)
	}
	unchanged(t, "Norm, Narrow or Dot", guards...)
	wantOut, wantWide := slices.Clone(out), slices.Clone(wide)
	testaid.Overwrite(x, 1)
	testaid.Overwrite(gains, 1)
	same(t, "Norm's answer, once the arguments were written over", out, wantOut)
	same(t, "Narrow's answer, once the argument was written over", wide, wantWide)
	guards = []func() bool{testaid.Guard(x), testaid.Guard(gains)}
	testaid.Overwrite(out, 5)
	testaid.Overwrite(wide, 5)
	unchanged(t, "writing over an answer", guards...)
}

func TestSoftmaxMemory(t *testing.T) {
	s := source(22)
	// Clamp changes none of these, so that an answer in the argument's place would be easy.
	scores := testaid.Roomy([]int64{5, 5, 5, 5, int64(s.below(100))}, 77)
	kept := testaid.Guard(scores)
	out, _ := tensor.Softmax(scores)
	unchanged(t, "Softmax", kept)
	want := slices.Clone(out)
	testaid.Overwrite(scores, 1)
	same(t, "Softmax's answer, once the scores were written over", out, want)
	kept = testaid.Guard(scores)
	testaid.Overwrite(out, 5)
	unchanged(t, "writing over Softmax's answer", kept)
}

func TestBlendMemory(t *testing.T) {
	s := source(23)
	// One vector alone, and alike ones, are blended to themselves: still the answer is new.
	for _, n := range []int{1, 2, 3} {
		weights := testaid.Roomy(make([]int64, n), 77)
		vs := make([][]int8, n, n+2)
		alike := s.narrow(5, -127)
		guards := []func() bool{}
		for i := range vs {
			weights[i] = 1 + int64(s.below(9))
			vs[i] = testaid.Roomy(alike, 77)
			guards = append(guards, testaid.Guard(vs[i]))
		}
		guards = append(guards, testaid.Guard(weights))
		out, _ := tensor.Blend(weights, vs)
		unchanged(t, "Blend", guards...)
		for _, v := range vs[:cap(vs)][n:] {
			if v != nil {
				t.Errorf("Blend wrote behind the end of the vectors")
			}
		}
		want := slices.Clone(out)
		for i := range vs {
			testaid.Overwrite(vs[i], 1)
		}
		testaid.Overwrite(weights, 1)
		same(t, "Blend's answer, once the arguments were written over", out, want)
		kept := testaid.Guard(vs[0])
		testaid.Overwrite(out, 5)
		unchanged(t, "writing over Blend's answer", kept)
	}
}

func TestTurnsMemory(t *testing.T) {
	s := source(24)
	units := testaid.Roomy(s.units(3), api.Turn{C: 77})
	kept := testaid.Guard(units)
	out, _ := tensor.Turns(units, 9)
	again, _ := tensor.Turns(units, 9)
	unchanged(t, "Turns", kept)
	for p := range out {
		others := slices.Clone(out)
		others[p] = nil
		guards := []func() bool{testaid.Guard(units)}
		for _, l := range append(others, again...) {
			guards = append(guards, testaid.Guard(l))
		}
		testaid.Overwrite(out[p], api.Turn{C: int64(p), S: 5})
		unchanged(t, "writing over one of Turns' lists", guards...)
	}
	want := slices.Clone(again[2])
	testaid.Overwrite(units, api.Turn{})
	same(t, "Turns' answer, once the units were written over", again[2], want)
}

func TestRotateMemory(t *testing.T) {
	s := source(25)
	v := testaid.Roomy(s.narrow(6, -127), 77)
	ts := testaid.Roomy([]api.Turn{{C: 16384}, {C: 16384}, {C: 16384}}, api.Turn{C: 77})
	guards := []func() bool{testaid.Guard(v), testaid.Guard(ts)}
	out, _ := tensor.Rotate(v, ts)
	unchanged(t, "Rotate", guards...)
	want := slices.Clone(out)
	testaid.Overwrite(v, 1)
	testaid.Overwrite(ts, api.Turn{})
	same(t, "Rotate's answer, once the arguments were written over", out, want)
	kept := testaid.Guard(v)
	testaid.Overwrite(out, 5)
	unchanged(t, "writing over Rotate's answer", kept)
}

// TestTwiceTheSame: a call's answer hangs on its arguments alone, whatever was called between.
func TestTwiceTheSame(t *testing.T) {
	s := source(26)
	m, v, x, gains := s.matrix(3, 4), s.narrow(4, -128), s.wide(4), s.narrow(4, -128)
	once := func() ([]int64, []int8, []int64) {
		a, _ := tensor.MatVec(m, v)
		b, _ := tensor.Norm(x, gains)
		c, _ := tensor.Softmax(x)
		return a, b, c
	}
	a, b, c := once()
	wantA, wantB, wantC := slices.Clone(a), slices.Clone(b), slices.Clone(c)
	testaid.Overwrite(a, 1)
	testaid.Overwrite(b, 1)
	testaid.Overwrite(c, 1)
	a, b, c = once()
	same(t, "MatVec again", a, wantA)
	same(t, "Norm again", b, wantB)
	same(t, "Softmax again", c, wantC)
}
