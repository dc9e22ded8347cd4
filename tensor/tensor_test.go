package tensor_test

import (
	"math"
	"math/big"
	"slices"
	"testing"

	"augur/api"
	"augur/fix"
	"augur/tensor"
)

// source gives numbers that look drawn, the same in each run.
type source uint64

func (s *source) next() uint64 {
	*s = *s*6364136223846793005 + 1442695040888963407
	return uint64(*s >> 17)
}

func (s *source) below(n int) int { return int(s.next() % uint64(n)) }

// narrow: numbers from least to 127.
func (s *source) narrow(n, least int) []int8 {
	out := make([]int8, n)
	for i := range out {
		out[i] = int8(least + s.below(128-least))
	}
	return out
}

// any64: a number of any size.
func (s *source) any64() int64 {
	return int64(s.next()<<32^s.next()) >> s.below(64)
}

func (s *source) wide(n int) []int64 {
	out := make([]int64, n)
	for i := range out {
		out[i] = s.any64()
	}
	return out
}

func (s *source) matrix(rows, cols int) api.Mat {
	return api.Mat{Rows: rows, Cols: cols, Data: s.narrow(rows*cols, -127)}
}

func (s *source) order(n int) []int {
	out := make([]int, n)
	for i := range out {
		j := s.below(i + 1)
		out[i], out[j] = out[j], i
	}
	return out
}

func reorder[T any](x []T, order []int) []T {
	out := make([]T, len(x))
	for i, o := range order {
		out[i] = x[o]
	}
	return out
}

// total is an unbounded sum, told as a number of 64 bits with sign.
type total struct{ sum big.Int }

func (t *total) add(a, b int64) {
	t.sum.Add(&t.sum, new(big.Int).Mul(big.NewInt(a), big.NewInt(b)))
}

func (t *total) wrapped() int64 {
	low := new(big.Int).And(&t.sum, new(big.Int).SetUint64(math.MaxUint64))
	return int64(low.Uint64())
}

func same[T comparable](t *testing.T, what string, got, want []T) {
	t.Helper()
	if !slices.Equal(got, want) {
		t.Errorf("%s: %v, want %v", what, got, want)
	}
}

func told(t *testing.T, what string, got, want api.Errno) {
	t.Helper()
	if got != want {
		t.Errorf("%s: error %d, want %d", what, got, want)
	}
}

// refused: the error, and nothing beside it.
func refused[T any](t *testing.T, what string, list []T, got, want api.Errno) {
	t.Helper()
	told(t, what, got, want)
	if len(list) > 0 {
		t.Errorf("%s: %v beside an error", what, list)
	}
}

func noMatrices() map[string]api.Mat {
	wrapping := make([]int8, 16)
	return map[string]api.Mat{
		"zero value":          {},
		"one too few":         {Rows: 2, Cols: 3, Data: make([]int8, 5)},
		"one too many":        {Rows: 2, Cols: 3, Data: make([]int8, 7)},
		"a row too many":      {Rows: 2, Cols: 3, Data: make([]int8, 9)},
		"a row too few":       {Rows: 2, Cols: 3, Data: make([]int8, 3)},
		"nil":                 {Rows: 2, Cols: 3},
		"-128":                {Rows: 1, Cols: 1, Data: []int8{-128}},
		"-128 last":           {Rows: 2, Cols: 2, Data: []int8{127, -127, 0, -128}},
		"-128 first":          {Rows: 2, Cols: 2, Data: []int8{-128, -127, 0, 1}},
		"no rows":             {Rows: 0, Cols: 4},
		"no cols":             {Rows: 4, Cols: 0},
		"no rows, data":       {Rows: 0, Cols: 4, Data: make([]int8, 4)},
		"no cols, data":       {Rows: 4, Cols: 0, Data: make([]int8, 4)},
		"below 0":             {Rows: -1, Cols: -1, Data: make([]int8, 1)},
		"rows below 0":        {Rows: -2, Cols: 3, Data: make([]int8, 6)},
		"cols below 0":        {Rows: 2, Cols: -3, Data: make([]int8, 6)},
		"both below 0":        {Rows: -2, Cols: -3, Data: make([]int8, 6)},
		"product wraps to 0":  {Rows: 1 << 32, Cols: 1 << 32},
		"product wraps to 16": {Rows: 1<<60 + 1, Cols: 16, Data: wrapping},
		"wraps, the other":    {Rows: 16, Cols: 1<<60 + 1, Data: wrapping},
		"wraps to 1":          {Rows: math.MaxInt, Cols: math.MaxInt, Data: make([]int8, 1)},
		"least ints":          {Rows: math.MinInt, Cols: math.MinInt},
		"least int and 2":     {Rows: math.MinInt, Cols: 2},
	}
}

func TestCheck(t *testing.T) {
	for name, m := range noMatrices() {
		told(t, "Check of "+name, tensor.Check(m), api.ErrShape)
	}
	good := []api.Mat{
		{Rows: 1, Cols: 1, Data: []int8{-127}},
		{Rows: 1, Cols: 1, Data: []int8{127}},
		{Rows: 1, Cols: 6, Data: []int8{-127, 127, 0, 1, -1, 5}},
		{Rows: 6, Cols: 1, Data: []int8{-127, 127, 0, 1, -1, 5}},
		{Rows: 3, Cols: 2, Data: []int8{-127, 127, 0, 1, -1, 5}},
	}
	for _, m := range good {
		told(t, "Check of a matrix", tensor.Check(m), api.OK)
	}
	// What lies behind the end of Data is no part of it.
	told(t, "Check with -128 in spare room", tensor.Check(api.Mat{Rows: 1, Cols: 1, Data: []int8{3, -128}[:1]}), api.OK)
}

func TestCheckEachNumber(t *testing.T) {
	for at := range 6 {
		for x := -128; x <= 127; x++ {
			m := api.Mat{Rows: 2, Cols: 3, Data: make([]int8, 6)}
			m.Data[at] = int8(x)
			want := api.OK
			if x == -128 {
				want = api.ErrShape
			}
			told(t, "Check", tensor.Check(m), want)
		}
	}
}

func TestMatVecExamples(t *testing.T) {
	m := api.Mat{Rows: 2, Cols: 3, Data: []int8{1, 2, 3, -1, 0, 127}}
	out, e := tensor.MatVec(m, []int8{2, -128, 1})
	told(t, "MatVec", e, api.OK)
	same(t, "MatVec", out, []int64{-251, 125})
	for _, v := range [][]int8{nil, {}, {1, 2}, {1, 2, 3, 4}} {
		out, e = tensor.MatVec(m, v)
		refused(t, "MatVec of another length", out, e, api.ErrShape)
	}
	for name, m := range noMatrices() {
		for _, n := range []int{0, 1, 2, 3, 4, 16} {
			out, e = tensor.MatVec(m, make([]int8, n))
			refused(t, "MatVec of "+name, out, e, api.ErrShape)
		}
	}
}

func TestMatVec(t *testing.T) {
	s := source(1)
	for range 300 {
		rows, cols := 1+s.below(9), 1+s.below(9)
		m, v := s.matrix(rows, cols), s.narrow(cols, -128)
		out, e := tensor.MatVec(m, v)
		told(t, "MatVec", e, api.OK)
		var want []int64
		for r := range rows {
			var sum total
			for c := range cols {
				sum.add(int64(m.Data[r*cols+c]), int64(v[c]))
			}
			want = append(want, sum.wrapped())
		}
		same(t, "MatVec", out, want)
	}
}

func TestMatVecIsLinear(t *testing.T) {
	s := source(2)
	for range 200 {
		rows, cols := 1+s.below(9), 1+s.below(9)
		m, v, w := s.matrix(rows, cols), make([]int8, cols), make([]int8, cols)
		sum := make([]int8, cols)
		for c := range cols {
			v[c], w[c] = int8(s.below(127)-63), int8(s.below(127)-63)
			sum[c] = v[c] + w[c]
		}
		a, _ := tensor.MatVec(m, v)
		b, _ := tensor.MatVec(m, w)
		both, _ := tensor.MatVec(m, sum)
		for r := range a {
			a[r] += b[r]
		}
		same(t, "MatVec of a sum", both, a)
	}
}

func TestMatVecOrder(t *testing.T) {
	s := source(3)
	for range 200 {
		rows, cols := 1+s.below(9), 1+s.below(9)
		m, v := s.matrix(rows, cols), s.narrow(cols, -128)
		out, _ := tensor.MatVec(m, v)
		byRow, byCol := s.order(rows), s.order(cols)
		other := api.Mat{Rows: rows, Cols: cols}
		turned := api.Mat{Rows: rows, Cols: cols}
		for r := range rows {
			other.Data = append(other.Data, m.Data[byRow[r]*cols:(byRow[r]+1)*cols]...)
			turned.Data = append(turned.Data, reorder(m.Data[r*cols:(r+1)*cols], byCol)...)
		}
		rowsOut, _ := tensor.MatVec(other, v)
		same(t, "MatVec of rows in another order", rowsOut, reorder(out, byRow))
		colsOut, _ := tensor.MatVec(turned, reorder(v, byCol))
		same(t, "MatVec of columns in another order", colsOut, out)
	}
}

func TestNarrow(t *testing.T) {
	out, e := tensor.Narrow([]int64{3, -3, 300, -300}, 1)
	told(t, "Narrow", e, api.OK)
	same(t, "Narrow", out, []int8{2, -1, 127, -127})
	edges := []int64{math.MinInt64, math.MinInt64 + 1, -129, -128, -127, -126, -1, 0, 1, 126, 127, 128, 129, math.MaxInt64 - 1, math.MaxInt64}
	out, e = tensor.Narrow(edges, 0)
	told(t, "Narrow by 0", e, api.OK)
	same(t, "Narrow by 0", out, []int8{-127, -127, -127, -127, -127, -126, -1, 0, 1, 126, 127, 127, 127, 127, 127})
	half := int64(1 << 23)
	out, e = tensor.Narrow([]int64{half, half - 1, -half, -half - 1, 127 << 24, 127<<24 - half - 1, -126<<24 - half, -126<<24 - half - 1, 1 << 62, -1 << 63}, 24)
	told(t, "Narrow by 24", e, api.OK)
	same(t, "Narrow by 24", out, []int8{1, 0, 0, -1, 127, 126, -126, -127, 127, -127})
}

func TestNarrowRefuses(t *testing.T) {
	for _, shift := range []int{-1, 25, 26, 62, 63, 64, math.MinInt, math.MaxInt} {
		for _, v := range [][]int64{nil, {}, {1}, {1, 2, 3}} {
			out, e := tensor.Narrow(v, shift)
			refused(t, "Narrow by a shift out of its range", out, e, api.ErrArg)
		}
	}
	for shift := range api.MaxShift + 1 {
		for _, v := range [][]int64{nil, {}} {
			out, e := tensor.Narrow(v, shift)
			refused(t, "Narrow of nothing", out, e, api.OK)
		}
	}
}

func TestNarrowEachShift(t *testing.T) {
	s := source(4)
	for shift := range api.MaxShift + 1 {
		v := s.wide(400)
		out, e := tensor.Narrow(v, shift)
		told(t, "Narrow", e, api.OK)
		var want []int8
		for _, x := range v {
			// The whole number at or below (2x + 2^shift) over 2^(shift+1): to the nearest, halves up.
			n := new(big.Int).Lsh(big.NewInt(x), 1)
			n.Add(n, new(big.Int).Lsh(big.NewInt(1), uint(shift)))
			n.Rsh(n, uint(shift)+1)
			if n.Cmp(big.NewInt(127)) > 0 {
				n = big.NewInt(127)
			}
			if n.Cmp(big.NewInt(-127)) < 0 {
				n = big.NewInt(-127)
			}
			want = append(want, int8(n.Int64()))
		}
		same(t, "Narrow", out, want)
	}
}

func TestDot(t *testing.T) {
	cases := []struct {
		a, b []int8
		want int64
		err  api.Errno
	}{
		{nil, nil, 0, api.OK},
		{nil, []int8{}, 0, api.OK},
		{[]int8{}, nil, 0, api.OK},
		{[]int8{-128, 3}, []int8{-128, 5}, 16399, api.OK},
		{[]int8{-128}, []int8{127}, -16256, api.OK},
		{[]int8{1, 2, 3}, []int8{4, -5, 6}, 12, api.OK},
		{[]int8{1}, nil, 0, api.ErrShape},
		{nil, []int8{1}, 0, api.ErrShape},
		{[]int8{1, 2, 3}, []int8{1, 2}, 0, api.ErrShape},
		{[]int8{1, 2}, []int8{1, 2, 3}, 0, api.ErrShape},
	}
	for _, c := range cases {
		if d, e := tensor.Dot(c.a, c.b); d != c.want || e != c.err {
			t.Errorf("Dot(%v, %v) = %d, %d, want %d, %d", c.a, c.b, d, e, c.want, c.err)
		}
	}
	s := source(5)
	for range 300 {
		n := s.below(40)
		a, b := s.narrow(n, -128), s.narrow(n, -128)
		var sum total
		for i := range a {
			sum.add(int64(a[i]), int64(b[i]))
		}
		if d, e := tensor.Dot(a, b); d != sum.wrapped() || e != api.OK {
			t.Errorf("Dot(%v, %v) = %d, %d, want %d", a, b, d, e, sum.wrapped())
		}
	}
}

// trueNorm is P3.4, word by word.
func trueNorm(x []int64, gains []int8) []int8 {
	var squares total
	for _, n := range x {
		c := fix.Clamp(n, 1<<24)
		squares.add(c, c)
	}
	r := fix.Sqrt(fix.Div(squares.wrapped(), int64(len(x)))) + 1
	var out []int8
	for i, n := range x {
		out = append(out, fix.Clamp8(fix.Div(fix.Clamp(n, 1<<24)*int64(gains[i]), r)))
	}
	return out
}

func TestNormExamples(t *testing.T) {
	cases := []struct {
		x           []int64
		gains, want []int8
	}{
		{[]int64{3, 4}, []int8{100, 100}, []int8{75, 100}},
		{[]int64{0, 0}, []int8{5, 5}, []int8{0, 0}},
		{[]int64{-3, 4}, []int8{100, 1}, []int8{-75, 1}},
		{[]int64{1 << 30}, []int8{127}, []int8{126}},
		{[]int64{1, -1}, []int8{1, 1}, []int8{0, -1}},
		{[]int64{100, 0, 0, 0}, []int8{64, 64, 64, 64}, []int8{125, 0, 0, 0}},
		{[]int64{25600, 0, 0, 0}, []int8{64, 64, 64, 64}, []int8{127, 0, 0, 0}},
		{[]int64{-25600, 0, 0, 0}, []int8{64, 64, 64, 64}, []int8{-127, 0, 0, 0}},
		{[]int64{7}, []int8{-128}, []int8{-112}},
		{[]int64{-7}, []int8{-128}, []int8{112}},
		{[]int64{0}, []int8{-128}, []int8{0}},
		{[]int64{1 << 24}, []int8{127}, []int8{126}},
		{[]int64{1<<24 + 1}, []int8{127}, []int8{126}},
		{[]int64{math.MaxInt64}, []int8{127}, []int8{126}},
		{[]int64{math.MinInt64}, []int8{127}, []int8{-127}},
		{[]int64{math.MinInt64}, []int8{-128}, []int8{127}},
		// Had the first not been cut at Wide, the second would be lost beside it: r is the root of 5/8, times 2^24.
		{[]int64{math.MaxInt64, 1 << 23}, []int8{1, 100}, []int8{1, 63}},
	}
	for _, c := range cases {
		out, e := tensor.Norm(c.x, c.gains)
		told(t, "Norm", e, api.OK)
		same(t, "Norm", out, c.want)
	}
}

func TestNormRefuses(t *testing.T) {
	for n := range 5 {
		for g := range 5 {
			out, e := tensor.Norm(make([]int64, n), make([]int8, g))
			if n == g && n > 0 {
				told(t, "Norm", e, api.OK)
				same(t, "Norm of zeros", out, make([]int8, n))
				continue
			}
			refused(t, "Norm of unlike lengths", out, e, api.ErrShape)
		}
	}
	out, e := tensor.Norm(nil, nil)
	refused(t, "Norm of nil", out, e, api.ErrShape)
}

func TestNorm(t *testing.T) {
	s := source(6)
	for range 500 {
		n := 1 + s.below(33)
		x, gains := s.wide(n), s.narrow(n, -128)
		out, e := tensor.Norm(x, gains)
		told(t, "Norm", e, api.OK)
		same(t, "Norm", out, trueNorm(x, gains))
		order := s.order(n)
		moved, _ := tensor.Norm(reorder(x, order), reorder(gains, order))
		same(t, "Norm in another order", moved, reorder(out, order))
	}
}

// TestNormWraps: 2^15 squares of Wide are 2^63, which is the least int64; 2^16 are 0.
func TestNormWraps(t *testing.T) {
	for _, n := range []int{1<<15 - 1, 1 << 15, 1<<15 + 1, 1<<16 - 1, 1 << 16, 1<<16 + 1, 3 << 14} {
		x, gains := make([]int64, n), make([]int8, n)
		for i := range x {
			x[i], gains[i] = 1<<24, 3
			if i%2 == 1 {
				x[i], gains[i] = -1<<40, 1
			}
		}
		out, e := tensor.Norm(x, gains)
		told(t, "Norm", e, api.OK)
		same(t, "Norm of so many that the sum wraps round", out[:8], trueNorm(x, gains)[:8])
	}
	x, gains := make([]int64, 1<<15), make([]int8, 1<<15)
	for i := range x {
		x[i], gains[i] = api.Wide, 1
	}
	out, _ := tensor.Norm(x, gains)
	same(t, "Norm by 1, as the root of what is below 0 is 0", out[:2], []int8{127, 127})
}

func TestSoftmaxExamples(t *testing.T) {
	cases := []struct {
		scores, want []int64
		sum          int64
	}{
		{nil, nil, 0},
		{[]int64{}, nil, 0},
		{[]int64{0}, []int64{65536}, 65536},
		{[]int64{math.MinInt64}, []int64{65536}, 65536},
		{[]int64{math.MaxInt64}, []int64{65536}, 65536},
		{[]int64{5, 5}, []int64{65536, 65536}, 131072},
		{[]int64{0, 1 << 40}, []int64{0, 65536}, 65536},
		{[]int64{math.MinInt64, math.MaxInt64}, []int64{0, 65536}, 65536},
		{[]int64{-1 << 50, -1 << 24}, []int64{65536, 65536}, 131072},
		{[]int64{1 << 50, 1<<24 + 1, 1 << 24}, []int64{65536, 65536, 65536}, 196608},
		{[]int64{-1024, 0}, []int64{24110, 65536}, 89646},
		{[]int64{7, 1031}, []int64{24110, 65536}, 89646},
		{[]int64{1 << 24, 1<<24 - 1024}, []int64{65536, 24110}, 89646},
		{[]int64{1 << 30, 1<<24 - 1024}, []int64{65536, 24110}, 89646},
		{[]int64{-1 << 30, 1024 - 1<<24}, []int64{24110, 65536}, 89646},
	}
	for _, c := range cases {
		out, sum := tensor.Softmax(c.scores)
		same(t, "Softmax", out, c.want)
		if sum != c.sum {
			t.Errorf("Softmax(%v): sum %d, want %d", c.scores, sum, c.sum)
		}
	}
}

func (s *source) scores(n int) []int64 {
	out := make([]int64, n)
	for i := range out {
		out[i] = int64(s.below(1<<15) - 1<<14)
		if s.below(8) == 0 {
			out[i] = s.any64()
		}
	}
	return out
}

func TestSoftmax(t *testing.T) {
	s := source(7)
	for range 500 {
		scores := s.scores(1 + s.below(20))
		out, sum := tensor.Softmax(scores)
		best := int64(math.MinInt64)
		for _, x := range scores {
			best = max(best, fix.Clamp(x, 1<<24))
		}
		var want []int64
		wantSum := int64(0)
		for _, x := range scores {
			w := fix.Exp(64 * (fix.Clamp(x, 1<<24) - best))
			want, wantSum = append(want, w), wantSum+w
		}
		same(t, "Softmax", out, want)
		if sum != wantSum {
			t.Errorf("Softmax(%v): sum %d, want %d", scores, sum, wantSum)
		}
	}
}

func TestSoftmaxFollows(t *testing.T) {
	s := source(8)
	for range 200 {
		n := 1 + s.below(12)
		scores := s.scores(n)
		out, sum := tensor.Softmax(scores)
		for i := range n {
			for j := range n {
				if scores[i] > scores[j] && out[i] < out[j] {
					t.Errorf("Softmax: the score %d has the weight %d, the lesser one %d has %d", scores[i], out[i], scores[j], out[j])
				}
			}
		}
		order := s.order(n)
		moved, movedSum := tensor.Softmax(reorder(scores, order))
		same(t, "Softmax in another order", moved, reorder(out, order))
		if movedSum != sum {
			t.Errorf("Softmax in another order: sum %d, was %d", movedSum, sum)
		}
		for i := range scores {
			scores[i] = int64(s.below(1<<13) - 1<<12)
		}
		out, sum = tensor.Softmax(scores)
		more := int64(s.below(1<<20) - 1<<19)
		for i := range scores {
			scores[i] += more
		}
		raised, raisedSum := tensor.Softmax(scores)
		same(t, "Softmax of scores that are all greater by one number", raised, out)
		if raisedSum != sum {
			t.Errorf("Softmax of scores that are all greater: sum %d, was %d", raisedSum, sum)
		}
	}
}
