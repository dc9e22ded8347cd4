package tensor_test

import (
	"slices"
	"testing"

	"augur/api"
	"augur/tensor"
)

// roomy: the list with spare room behind its end, in which mark stands.
func roomy[T any](x []T, mark T) []T {
	full := append(slices.Clone(x), mark, mark, mark)
	return full[:len(x)]
}

// guard keeps a list and its spare room as they were; the answered function tells whether they still are.
func guard[T comparable](x []T) func() bool {
	was := slices.Clone(x[:cap(x)])
	return func() bool { return slices.Equal(x[:cap(x)], was) }
}

func unchanged(t *testing.T, what string, guards ...func() bool) {
	t.Helper()
	for i, kept := range guards {
		if !kept() {
			t.Errorf("%s changed argument %d or its spare room", what, i)
		}
	}
}

// overwrite writes other numbers all over an answer, its spare room too.
func overwrite[T any](x []T, mark T) {
	for i := range x[:cap(x)] {
		x[:cap(x)][i] = mark
	}
}

func TestMatVecMemory(t *testing.T) {
	s := source(20)
	m, v := s.matrix(4, 4), roomy(s.narrow(4, -128), 77)
	m.Data = roomy(m.Data, 77)
	guards := []func() bool{guard(m.Data), guard(v)}
	out, _ := tensor.MatVec(m, v)
	unchanged(t, "MatVec", guards...)
	want := slices.Clone(out)
	overwrite(m.Data, 1)
	overwrite(v, 1)
	same(t, "MatVec's answer, once the arguments were written over", out, want)
	guards = []func() bool{guard(m.Data), guard(v)}
	overwrite(out, 5)
	unchanged(t, "writing over MatVec's answer", guards...)
	kept := guard(m.Data)
	tensor.Check(m)
	unchanged(t, "Check", kept)
}

func TestNormMemory(t *testing.T) {
	s := source(21)
	x, gains := roomy(s.wide(9), 77), roomy(s.narrow(9, -128), 77)
	guards := []func() bool{guard(x), guard(gains)}
	out, _ := tensor.Norm(x, gains)
	wide, _ := tensor.Narrow(x, 3)
	if _, e := tensor.Dot(gains, gains); e != api.OK {
		t.Errorf("Dot: error %d", e)
	}
	unchanged(t, "Norm, Narrow or Dot", guards...)
	wantOut, wantWide := slices.Clone(out), slices.Clone(wide)
	overwrite(x, 1)
	overwrite(gains, 1)
	same(t, "Norm's answer, once the arguments were written over", out, wantOut)
	same(t, "Narrow's answer, once the argument was written over", wide, wantWide)
	guards = []func() bool{guard(x), guard(gains)}
	overwrite(out, 5)
	overwrite(wide, 5)
	unchanged(t, "writing over an answer", guards...)
}

func TestSoftmaxMemory(t *testing.T) {
	s := source(22)
	// Clamp changes none of these, so that an answer in the argument's place would be easy.
	scores := roomy([]int64{5, 5, 5, 5, int64(s.below(100))}, 77)
	kept := guard(scores)
	out, _ := tensor.Softmax(scores)
	unchanged(t, "Softmax", kept)
	want := slices.Clone(out)
	overwrite(scores, 1)
	same(t, "Softmax's answer, once the scores were written over", out, want)
	kept = guard(scores)
	overwrite(out, 5)
	unchanged(t, "writing over Softmax's answer", kept)
}

func TestBlendMemory(t *testing.T) {
	s := source(23)
	// One vector alone, and alike ones, are blended to themselves: still the answer is new.
	for _, n := range []int{1, 2, 3} {
		weights := roomy(make([]int64, n), 77)
		vs := make([][]int8, n, n+2)
		alike := s.narrow(5, -127)
		guards := []func() bool{}
		for i := range vs {
			weights[i] = 1 + int64(s.below(9))
			vs[i] = roomy(alike, 77)
			guards = append(guards, guard(vs[i]))
		}
		guards = append(guards, guard(weights))
		out, _ := tensor.Blend(weights, vs)
		unchanged(t, "Blend", guards...)
		for _, v := range vs[:cap(vs)][n:] {
			if v != nil {
				t.Errorf("Blend wrote behind the end of the vectors")
			}
		}
		want := slices.Clone(out)
		for i := range vs {
			overwrite(vs[i], 1)
		}
		overwrite(weights, 1)
		same(t, "Blend's answer, once the arguments were written over", out, want)
		kept := guard(vs[0])
		overwrite(out, 5)
		unchanged(t, "writing over Blend's answer", kept)
	}
}

func TestTurnsMemory(t *testing.T) {
	s := source(24)
	units := roomy(s.units(3), api.Turn{C: 77})
	kept := guard(units)
	out, _ := tensor.Turns(units, 9)
	again, _ := tensor.Turns(units, 9)
	unchanged(t, "Turns", kept)
	for p := range out {
		others := slices.Clone(out)
		others[p] = nil
		guards := []func() bool{guard(units)}
		for _, l := range append(others, again...) {
			guards = append(guards, guard(l))
		}
		overwrite(out[p], api.Turn{C: int64(p), S: 5})
		unchanged(t, "writing over one of Turns' lists", guards...)
	}
	want := slices.Clone(again[2])
	overwrite(units, api.Turn{})
	same(t, "Turns' answer, once the units were written over", again[2], want)
}

func TestRotateMemory(t *testing.T) {
	s := source(25)
	v := roomy(s.narrow(6, -127), 77)
	ts := roomy([]api.Turn{{C: 16384}, {C: 16384}, {C: 16384}}, api.Turn{C: 77})
	guards := []func() bool{guard(v), guard(ts)}
	out, _ := tensor.Rotate(v, ts)
	unchanged(t, "Rotate", guards...)
	want := slices.Clone(out)
	overwrite(v, 1)
	overwrite(ts, api.Turn{})
	same(t, "Rotate's answer, once the arguments were written over", out, want)
	kept := guard(v)
	overwrite(out, 5)
	unchanged(t, "writing over Rotate's answer", kept)
}

// TestTwiceTheSame: a call's answer hangs on its arguments alone, whatever was called between.
func TestTwiceTheSame(t *testing.T) {
	s := source(26)
	m, v, x, gains := s.matrix(3, 4), s.narrow(4, -128), s.wide(4), s.narrow(4, -128)
	once := func() ([]int64, []int8, []int64) {
		a, _ := tensor.MatVec(m, v)
		b, _ := tensor.Norm(x, gains)
		c, _ := tensor.Softmax(x)
		return a, b, c
	}
	a, b, c := once()
	wantA, wantB, wantC := slices.Clone(a), slices.Clone(b), slices.Clone(c)
	overwrite(a, 1)
	overwrite(b, 1)
	overwrite(c, 1)
	a, b, c = once()
	same(t, "MatVec again", a, wantA)
	same(t, "Norm again", b, wantB)
	same(t, "Softmax again", c, wantC)
}
