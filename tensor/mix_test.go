package tensor_test

import (
	"math"
	"slices"
	"testing"

	"augur/api"
	"augur/fix"
	"augur/tensor"
)

func TestBlendExamples(t *testing.T) {
	cases := []struct {
		weights []int64
		vs      [][]int8
		want    []int8
	}{
		{[]int64{1, 3}, [][]int8{{10, -10}, {20, -11}}, []int8{17, -11}},
		{[]int64{1}, [][]int8{{-128, -127, 0, 127}}, []int8{-127, -127, 0, 127}},
		{[]int64{0, 1}, [][]int8{{99}, {5}}, []int8{5}},
		{[]int64{5, 0}, [][]int8{{99}, {5}}, []int8{99}},
		{[]int64{1, 1}, [][]int8{{-1}, {0}}, []int8{-1}},
		{[]int64{1, 1}, [][]int8{{1}, {0}}, []int8{0}},
		{[]int64{2}, [][]int8{nil}, nil},
		{[]int64{2, 3}, [][]int8{nil, {}}, nil},
		{[]int64{math.MaxInt64}, [][]int8{{1, -1}}, []int8{1, -1}},
		// The products wrap round: 2 (2^63 - 1) is -2, which over 2^63 - 1 is -1.
		{[]int64{math.MaxInt64}, [][]int8{{2}}, []int8{-1}},
		// The weights wrap round to the sum 1, and so do the products: 2^62 (1 + 1 + 1 + 1) + 7.
		{[]int64{1 << 62, 1 << 62, 1 << 62, 1 << 62, 1}, [][]int8{{1}, {1}, {1}, {1}, {7}}, []int8{7}},
		// The weights' sum is 3, the products' 2^62 + 2: clamped.
		{[]int64{1 << 62, 1 << 62, 1 << 62, 1 << 62, 3}, [][]int8{{1, 0}, {0, 0}, {0, -1}, {0, 0}, {1, 1}}, []int8{127, -127}},
	}
	for _, c := range cases {
		out, e := tensor.Blend(c.weights, c.vs)
		told(t, "Blend", e, api.OK)
		same(t, "Blend", out, c.want)
	}
}

func TestBlendRefuses(t *testing.T) {
	cases := map[string]struct {
		weights []int64
		vs      [][]int8
	}{
		"nothing":                    {nil, nil},
		"lists without elements":     {[]int64{}, [][]int8{}},
		"no weights":                 {nil, [][]int8{{1}}},
		"no vectors":                 {[]int64{1}, nil},
		"one vector too many":        {[]int64{1}, [][]int8{{1}, {1}}},
		"one vector too few":         {[]int64{1, 1}, [][]int8{{1}}},
		"a sum of 0":                 {[]int64{0}, [][]int8{{1}}},
		"two weights of 0":           {[]int64{0, 0}, [][]int8{{1}, {2}}},
		"a first weight below 0":     {[]int64{-1, 3}, [][]int8{{10, -10}, {20, -11}}},
		"a last weight below 0":      {[]int64{3, -1}, [][]int8{{10, -10}, {20, -11}}},
		"a middle weight below 0":    {[]int64{3, -1, 3}, [][]int8{{1}, {1}, {1}}},
		"the least weight":           {[]int64{math.MinInt64, 1}, [][]int8{{1}, {1}}},
		"weights that wrap up again": {[]int64{math.MinInt64, math.MinInt64, 1}, [][]int8{{1}, {1}, {1}}},
		"a longer last vector":       {[]int64{1, 1}, [][]int8{{1}, {1, 2}}},
		"a shorter last vector":      {[]int64{1, 1}, [][]int8{{1, 2}, {1}}},
		"a longer middle vector":     {[]int64{1, 1, 1}, [][]int8{{1}, {1, 2}, {1}}},
		"a nil vector":               {[]int64{1, 1}, [][]int8{{1, 2}, nil}},
		"a first nil vector":         {[]int64{1, 1}, [][]int8{nil, {1, 2}}},
		"an unlike one of weight 0":  {[]int64{1, 0}, [][]int8{{1}, {1, 2}}},
		"a sum that wraps below 0":   {[]int64{1 << 62, 1 << 62}, [][]int8{{1}, {2}}},
		"a sum that wraps to 0":      {[]int64{1 << 62, 1 << 62, 1 << 62, 1 << 62}, [][]int8{{1}, {2}, {3}, {4}}},
		"no numbers, a sum of 0":     {[]int64{0}, [][]int8{nil}},
	}
	for name, c := range cases {
		out, e := tensor.Blend(c.weights, c.vs)
		refused(t, "Blend of "+name, out, e, api.ErrShape)
	}
}

// vectors: n of them, of size numbers each.
func (s *source) vectors(n, size int) [][]int8 {
	out := make([][]int8, n)
	for i := range out {
		out[i] = s.narrow(size, -128)
	}
	return out
}

func TestBlend(t *testing.T) {
	s := source(9)
	blended := 0
	for range 1000 {
		n, size := 1+s.below(9), s.below(7)
		weights, vs := s.wide(n), s.vectors(n, size)
		for i := range weights {
			weights[i] &= math.MaxInt64
		}
		var sum total
		for _, w := range weights {
			sum.add(w, 1)
		}
		out, e := tensor.Blend(weights, vs)
		if sum.wrapped() < 1 {
			refused(t, "Blend", out, e, api.ErrShape)
			continue
		}
		blended++
		told(t, "Blend", e, api.OK)
		var want []int8
		for j := range size {
			var products total
			for i := range n {
				products.add(weights[i], int64(vs[i][j]))
			}
			want = append(want, fix.Clamp8(fix.Div(products.wrapped(), sum.wrapped())))
		}
		same(t, "Blend", out, want)
		order := s.order(n)
		moved, _ := tensor.Blend(reorder(weights, order), reorder(vs, order))
		same(t, "Blend in another order", moved, out)
	}
	if blended < 300 {
		t.Errorf("only %d blends were tried", blended)
	}
}

func TestBlendLiesBetween(t *testing.T) {
	s := source(10)
	for range 500 {
		n, size := 1+s.below(9), 1+s.below(7)
		weights, vs := make([]int64, n), s.vectors(n, size)
		for i := range weights {
			weights[i] = int64(s.next() >> 24 >> s.below(20))
		}
		weights[s.below(n)]++
		out, e := tensor.Blend(weights, vs)
		told(t, "Blend", e, api.OK)
		for j, x := range out {
			least, most := int8(127), int8(-127)
			for _, v := range vs {
				least, most = min(least, max(v[j], -127)), max(most, v[j])
			}
			if x < least || x > most {
				t.Errorf("Blend: %d at place %d, beyond %d to %d", x, j, least, most)
			}
		}
		for i := range vs {
			vs[i] = slices.Clone(vs[0])
		}
		alike, _ := tensor.Blend(weights, vs)
		for j, x := range alike {
			if x != max(vs[0][j], -127) {
				t.Errorf("Blend of alike vectors: %d at place %d, want %d", x, j, vs[0][j])
			}
		}
	}
}

func TestTurnsExamples(t *testing.T) {
	out, e := tensor.Turns([]api.Turn{{S: 16384}}, 3)
	told(t, "Turns", e, api.OK)
	want := [][]api.Turn{{{C: 16384}}, {{S: 16384}}, {{C: -16384}}}
	if len(out) != len(want) {
		t.Fatalf("Turns: %v", out)
	}
	for p := range want {
		same(t, "Turns", out[p], want[p])
	}
	for _, units := range [][]api.Turn{nil, {}} {
		out, e = tensor.Turns(units, 2)
		told(t, "Turns of no units", e, api.OK)
		if len(out) != 2 || len(out[0])+len(out[1]) > 0 {
			t.Errorf("Turns of no units: %v", out)
		}
	}
}

func TestTurnsRefuses(t *testing.T) {
	far := []int64{16385, -16385, 1 << 32, math.MaxInt64, math.MinInt64}
	for _, x := range far {
		for _, bad := range [][]api.Turn{{{C: x}}, {{S: x}}, {{C: x, S: x}}, {{C: 1}, {C: x}}, {{C: x}, {S: 1}}, {{}, {S: x}, {}}} {
			for _, n := range []int{0, 1, 2, 64} {
				out, e := tensor.Turns(bad, n)
				refused(t, "Turns of a unit beyond Unit", out, e, api.ErrShape)
			}
			for _, n := range []int{-1, 65, math.MinInt, math.MaxInt} {
				out, e := tensor.Turns(bad, n)
				refused(t, "Turns of a unit beyond Unit, n out of its range", out, e, api.ErrArg)
			}
		}
	}
	for _, units := range [][]api.Turn{nil, {{}}, {{C: 16384}, {S: -16384}}} {
		for _, n := range []int{-1, 65, 66, math.MinInt, math.MaxInt} {
			out, e := tensor.Turns(units, n)
			refused(t, "Turns, n out of its range", out, e, api.ErrArg)
		}
		out, e := tensor.Turns(units, 0)
		refused(t, "Turns of no positions", out, e, api.OK)
	}
}

// units: turns at and within the bounds, some of them longer than one, so that they are cut.
func (s *source) units(n int) []api.Turn {
	out := make([]api.Turn, n)
	edges := []int64{-16384, -16383, -1, 0, 1, 11585, 16383, 16384}
	for i := range out {
		out[i] = api.Turn{C: int64(s.below(32769)) - 16384, S: int64(s.below(32769)) - 16384}
		if s.below(3) == 0 {
			out[i] = api.Turn{C: edges[s.below(len(edges))], S: edges[s.below(len(edges))]}
		}
	}
	return out
}

// trueTurn is P3.8's T(p), word by word.
func trueTurn(unit api.Turn, p int) api.Turn {
	t := api.Turn{C: 16384}
	for range p {
		t = api.Turn{
			C: fix.Clamp(fix.Shift(t.C*unit.C-t.S*unit.S, 14), 16384),
			S: fix.Clamp(fix.Shift(t.C*unit.S+t.S*unit.C, 14), 16384),
		}
	}
	return t
}

func TestTurns(t *testing.T) {
	s := source(11)
	for i := range 300 {
		units, n := s.units(s.below(9)), s.below(65)
		if i%10 == 0 {
			n = 64
		}
		out, e := tensor.Turns(units, n)
		told(t, "Turns", e, api.OK)
		if len(out) != n {
			t.Fatalf("Turns of %d positions: %d lists", n, len(out))
		}
		for p := range out {
			var want []api.Turn
			for _, u := range units {
				want = append(want, trueTurn(u, p))
			}
			same(t, "Turns", out[p], want)
		}
		m := s.below(n + 1)
		first, _ := tensor.Turns(units, m)
		if !slices.EqualFunc(first, out[:m], slices.Equal[[]api.Turn]) {
			t.Errorf("Turns of %d positions are not the first of %d", m, n)
		}
	}
}

// TestTurnsAreCut: the unit (Unit, Unit) is longer than one: without the cut it would grow and grow.
func TestTurnsAreCut(t *testing.T) {
	out, e := tensor.Turns([]api.Turn{{C: 16384, S: 16384}, {C: -16384, S: -16384}}, 4)
	told(t, "Turns", e, api.OK)
	same(t, "Turns at 1", out[1], []api.Turn{{C: 16384, S: 16384}, {C: -16384, S: -16384}})
	same(t, "Turns at 2", out[2], []api.Turn{{C: 0, S: 16384}, {C: 0, S: 16384}})
	same(t, "Turns at 3", out[3], []api.Turn{{C: -16384, S: 16384}, {C: 16384, S: -16384}})
}

func TestRotateExamples(t *testing.T) {
	cases := []struct {
		v    []int8
		ts   []api.Turn
		want []int8
	}{
		{nil, nil, nil},
		{[]int8{}, []api.Turn{}, nil},
		{[]int8{10, 20}, []api.Turn{{S: 16384}}, []int8{-20, 10}},
		{[]int8{-128, 127}, []api.Turn{{C: 16384}}, []int8{-127, 127}},
		{[]int8{-128, -128}, []api.Turn{{C: -16384}}, []int8{127, 127}},
		{[]int8{1, 2, 3, 4}, []api.Turn{{}, {S: -16384}}, []int8{0, 0, 4, -3}},
		// Halves go up: 1 and -1 times 8192 are a half.
		{[]int8{1, -1}, []api.Turn{{C: 8192}}, []int8{1, 0}},
		{[]int8{127, 127}, []api.Turn{{C: 16384, S: 16384}}, []int8{0, 127}},
		{[]int8{1, 0}, []api.Turn{{C: math.MaxInt64, S: math.MinInt64}}, []int8{127, -127}},
		// 2 (2^63 - 1) wraps round to -2, 2 times the least int64 to 0.
		{[]int8{2, 0}, []api.Turn{{C: math.MaxInt64, S: math.MinInt64}}, []int8{0, 0}},
		{[]int8{1, 1}, []api.Turn{{C: math.MinInt64, S: math.MaxInt64}}, []int8{0, 0}},
	}
	for _, c := range cases {
		out, e := tensor.Rotate(c.v, c.ts)
		told(t, "Rotate", e, api.OK)
		same(t, "Rotate", out, c.want)
	}
}

func TestRotateRefuses(t *testing.T) {
	for n := range 9 {
		for k := range 5 {
			out, e := tensor.Rotate(make([]int8, n), make([]api.Turn, k))
			if n == 2*k {
				told(t, "Rotate", e, api.OK)
				same(t, "Rotate of zeros", out, make([]int8, n))
				continue
			}
			refused(t, "Rotate of unlike lengths", out, e, api.ErrShape)
		}
	}
}

func TestRotate(t *testing.T) {
	s := source(12)
	for i := range 500 {
		n := s.below(9)
		v, ts := s.narrow(2*n, -128), s.units(n)
		if i%4 == 0 {
			for k := range ts {
				ts[k] = api.Turn{C: s.any64(), S: s.any64()}
			}
		}
		out, e := tensor.Rotate(v, ts)
		told(t, "Rotate", e, api.OK)
		var want []int8
		for k, turn := range ts {
			var first, second total
			x, y := int64(v[2*k]), int64(v[2*k+1])
			first.add(x, turn.C)
			first.add(-y, turn.S)
			second.add(x, turn.S)
			second.add(y, turn.C)
			want = append(want, fix.Clamp8(fix.Shift(first.wrapped(), 14)), fix.Clamp8(fix.Shift(second.wrapped(), 14)))
		}
		same(t, "Rotate", out, want)
	}
}

// TestPositionZero: Rotate by what Turns has at position 0 changes nothing, but -128 to -127.
func TestPositionZero(t *testing.T) {
	s := source(13)
	for range 100 {
		n := s.below(9)
		turns, _ := tensor.Turns(s.units(n), 1)
		v := s.narrow(2*n, -128)
		out, e := tensor.Rotate(v, turns[0])
		told(t, "Rotate", e, api.OK)
		for i := range v {
			v[i] = max(v[i], -127)
		}
		same(t, "Rotate at position 0", out, v)
	}
}
