package model_test

import (
	"math"
	"slices"
	"strconv"
	"testing"

	"augur/api"
	"augur/fix"
	"augur/model"
	"augur/tensor"
	"augur/testaid"
)

// config: measures out of eight numbers.
func config(n [8]int) api.Config {
	return api.Config{Vocab: n[0], Width: n[1], Heads: n[2], KV: n[3], Layers: n[4], Hidden: n[5], Len: n[6], Medusa: n[7]}
}

// someConfigs: the least, the greatest, and some between whose measures are all unlike.
func someConfigs() []api.Config {
	return []api.Config{
		config([8]int{2, 2, 1, 1, 1, 1, 1, 0}),
		config([8]int{5, 4, 2, 1, 1, 3, 8, 0}),
		config([8]int{7, 12, 2, 1, 3, 5, 9, 2}),
		config([8]int{3, 18, 3, 3, 2, 1, 64, 1}),
		config([8]int{9, 32, 4, 2, 2, 7, 3, 4}),
		config([8]int{64, 32, 4, 4, 4, 64, 64, 4}),
	}
}

func told(t *testing.T, what string, got, want api.Errno) {
	t.Helper()
	if got != want {
		t.Errorf("%s: error %d, want %d", what, got, want)
	}
}

// mayBe says the chapter's words on measures once more.
func mayBe(c api.Config) bool {
	within := func(n, least, most int) bool { return least <= n && n <= most }
	even, multiple := false, false
	for k := 1; k <= 64; k++ {
		even = even || c.Width == c.Heads*2*k
		multiple = multiple || c.Heads == c.KV*k
	}
	return within(c.Vocab, 2, 64) && within(c.Width, 2, 32) && within(c.Heads, 1, 4) && even &&
		within(c.KV, 1, c.Heads) && multiple && within(c.Layers, 1, 4) && within(c.Hidden, 1, 64) &&
		within(c.Len, 1, 64) && within(c.Medusa, 0, 4)
}

func holdConfig(t *testing.T, c api.Config) {
	t.Helper()
	want := api.ErrConfig
	if mayBe(c) {
		want = api.OK
	}
	if got := model.CheckConfig(c); got != want {
		t.Errorf("CheckConfig(%v): error %d, want %d", c, got, want)
	}
}

func TestCheckConfigExamples(t *testing.T) {
	for n, want := range map[[8]int]api.Errno{
		{5, 4, 2, 1, 1, 3, 8, 0}:      api.OK,
		{1, 4, 2, 1, 1, 3, 8, 0}:      api.ErrConfig,
		{5, 6, 2, 1, 1, 3, 8, 0}:      api.ErrConfig,
		{5, 8, 4, 3, 1, 3, 8, 0}:      api.ErrConfig,
		{5, 8, 4, 0, 1, 3, 8, 0}:      api.ErrConfig,
		{64, 32, 4, 4, 4, 64, 64, 4}:  api.OK,
		{2, 2, 1, 1, 1, 1, 1, 0}:      api.OK,
		{64, 32, 4, 1, 4, 64, 64, 4}:  api.OK,
		{64, 32, 3, 3, 4, 64, 64, 4}:  api.ErrConfig,
		{5, 12, 4, 4, 1, 3, 8, 0}:     api.ErrConfig,
		{5, 2, 2, 1, 1, 3, 8, 0}:      api.ErrConfig,
		{5, -4, -2, -1, 1, 3, 8, 0}:   api.ErrConfig,
		{5, -4, 2, 1, 1, 3, 8, 0}:     api.ErrConfig,
		{5, 4, 2, -1, 1, 3, 8, 0}:     api.ErrConfig,
		{5, 40, 5, 5, 1, 3, 8, 0}:     api.ErrConfig,
		{}:                            api.ErrConfig,
		{-1, -1, -1, -1, -1, -1, -1}:  api.ErrConfig,
		{5, 32, 1, 1, 1, 3, 8, 0}:     api.OK,
		{5, 32, 2, 2, 1, 3, 8, 0}:     api.OK,
		{5, 30, 3, 1, 1, 3, 8, 0}:     api.OK,
		{5, 30, 3, 2, 1, 3, 8, 0}:     api.ErrConfig,
		{5, 34, 1, 1, 1, 3, 8, 0}:     api.ErrConfig,
		{65, 32, 4, 4, 4, 64, 64, 4}:  api.ErrConfig,
		{64, 32, 4, 4, 5, 64, 64, 4}:  api.ErrConfig,
		{64, 32, 4, 4, 4, 65, 64, 4}:  api.ErrConfig,
		{64, 32, 4, 4, 4, 64, 65, 4}:  api.ErrConfig,
		{64, 32, 4, 4, 4, 64, 64, 5}:  api.ErrConfig,
		{2, 2, 1, 1, 0, 1, 1, 0}:      api.ErrConfig,
		{2, 2, 1, 1, 1, 0, 1, 0}:      api.ErrConfig,
		{2, 2, 1, 1, 1, 1, 0, 0}:      api.ErrConfig,
		{2, 2, 1, 1, 1, 1, 1, -1}:     api.ErrConfig,
		{2, 0, 1, 1, 1, 1, 1, 0}:      api.ErrConfig,
		{2, 1, 1, 1, 1, 1, 1, 0}:      api.ErrConfig,
		{2, 2, 0, 1, 1, 1, 1, 0}:      api.ErrConfig,
		{2, 2, 0, 0, 1, 1, 1, 0}:      api.ErrConfig,
		{2, 32, 4, 8, 1, 1, 1, 0}:     api.ErrConfig,
		{256 + 2, 2, 1, 1, 1, 1, 1}:   api.ErrConfig,
		{2, 2, 1, 1, 1, 1, 256 + 1}:   api.ErrConfig,
		{2, 1 << 62, 4, 4, 1, 1, 1}:   api.ErrConfig,
		{2, 4, 1 << 62, 1, 1, 1, 1}:   api.ErrConfig,
		{2, 4, 1 << 62, 4, 1, 1, 1}:   api.ErrConfig,
		{2, 4, -1 << 63, 1, 1, 1, 1}:  api.ErrConfig,
		{2, 4, 2, -1 << 63, 1, 1, 1}:  api.ErrConfig,
		{2, -1 << 63, 1, 1, 1, 1, 1}:  api.ErrConfig,
		{2, 4, -1 << 63, -1, 1, 1, 1}: api.ErrConfig,
	} {
		told(t, "CheckConfig", model.CheckConfig(config(n)), want)
		holdConfig(t, config(n))
	}
}

// TestCheckConfigHeads: all widths, heads and key heads around their bounds.
func TestCheckConfigHeads(t *testing.T) {
	for width := -2; width <= 40; width++ {
		for heads := -2; heads <= 7; heads++ {
			for kv := -2; kv <= 7; kv++ {
				holdConfig(t, config([8]int{5, width, heads, kv, 1, 3, 8, 0}))
			}
		}
	}
}

// TestCheckConfigBounds: each measure at and beyond its bounds, and far from them, the others being as they may.
func TestCheckConfigBounds(t *testing.T) {
	far := []int{math.MinInt, math.MinInt + 1, -1 << 32, -256, -2, 300, 1 << 31, 1 << 32, 1<<32 + 2, math.MaxInt - 1, math.MaxInt}
	for at := range 8 {
		for _, base := range [][8]int{{5, 8, 2, 1, 1, 3, 8, 0}, {64, 32, 4, 4, 4, 64, 64, 4}, {2, 2, 1, 1, 1, 1, 1, 0}} {
			for n := -3; n <= 70; n++ {
				base[at] = n
				holdConfig(t, config(base))
			}
			for _, n := range far {
				base[at] = n
				holdConfig(t, config(base))
			}
		}
	}
}

// matrices: all of the weights, by name.
func matrices(w *api.Weights) map[string]*api.Mat {
	out := map[string]*api.Mat{"Embed": &w.Embed, "Head": &w.Head}
	for i := range w.Layers {
		l := &w.Layers[i]
		for name, m := range map[string]*api.Mat{"Q": &l.Q, "K": &l.K, "V": &l.V, "O": &l.O, "G": &l.G, "U": &l.U, "D": &l.D} {
			out["layer "+strconv.Itoa(i)+"'s "+name] = m
		}
	}
	for i := range w.Medusa {
		out["Medusa "+strconv.Itoa(i)] = &w.Medusa[i]
	}
	return out
}

// gains: all of the weights, by name.
func gains(w *api.Weights) map[string]*[]int8 {
	out := map[string]*[]int8{"Final": &w.Final}
	for i := range w.Layers {
		out["layer "+strconv.Itoa(i)+"'s Norm1"] = &w.Layers[i].Norm1
		out["layer "+strconv.Itoa(i)+"'s Norm2"] = &w.Layers[i].Norm2
	}
	return out
}

// unfit: the weights are refused as such by every call that takes weights.
func unfit(t *testing.T, what string, w api.Weights) {
	t.Helper()
	refusedAs(t, what, w, api.ErrWeights)
}

func refusedAs(t *testing.T, what string, w api.Weights, want api.Errno) {
	t.Helper()
	told(t, "Check, "+what, model.Check(w), want)
	m, e := model.New(w)
	told(t, "New, "+what, e, want)
	b, f := model.Encode(w)
	told(t, "Encode, "+what, f, want)
	if m != nil || len(b) > 0 {
		t.Errorf("%s: a model or bytes beside an error", what)
	}
}

// fits: the weights are taken by every call that takes weights.
func fits(t *testing.T, what string, w api.Weights) {
	t.Helper()
	told(t, "Check, "+what, model.Check(w), api.OK)
	m, e := model.New(w)
	told(t, "New, "+what, e, api.OK)
	b, f := model.Encode(w)
	told(t, "Encode, "+what, f, api.OK)
	if m == nil || len(b) == 0 {
		t.Errorf("%s: no model or no bytes", what)
	}
}

func TestCheckFits(t *testing.T) {
	s := testaid.Source(1)
	for _, c := range someConfigs() {
		fits(t, "weights as they should be", s.Weights(c))
	}
	w := s.Weights(someConfigs()[2])
	for name, m := range matrices(&w) {
		m.Data[0], m.Data[len(m.Data)-1] = -127, 127
		fits(t, name+" with -127 and 127", w)
	}
	for name, g := range gains(&w) {
		(*g)[0], (*g)[len(*g)-1] = -127, 127
		fits(t, name+" with -127 and 127", w)
	}
	w.Config.Len = 64
	fits(t, "another Len", w)
}

func TestCheckMatrices(t *testing.T) {
	s := testaid.Source(2)
	for _, c := range someConfigs() {
		w := s.Weights(c)
		for name, m := range matrices(&w) {
			was := *m
			for what, spoilt := range spoiltMatrices(&s, was) {
				*m = spoilt
				unfit(t, name+" with "+what, w)
			}
			*m = was
		}
		told(t, "Check, all mended", model.Check(w), api.OK)
	}
}

// spoiltMatrices: matrices of other shapes, and what is no matrix.
func spoiltMatrices(s *testaid.Source, m api.Mat) map[string]api.Mat {
	r, c := m.Rows, m.Cols
	with := func(place int, n int8) []int8 {
		out := slices.Clone(m.Data)
		out[place] = n
		return out
	}
	out := map[string]api.Mat{
		"a row too many":         s.Matrix(r+1, c),
		"a row too few":          s.Matrix(r-1, c),
		"a column too many":      s.Matrix(r, c+1),
		"a column too few":       s.Matrix(r, c-1),
		"nothing":                {},
		"no numbers":             {Rows: r, Cols: c},
		"an empty list":          {Rows: r, Cols: c, Data: []int8{}},
		"a number too many":      {Rows: r, Cols: c, Data: append(slices.Clone(m.Data), 1)},
		"a number too few":       {Rows: r, Cols: c, Data: m.Data[1:]},
		"rows said one more":     {Rows: r + 1, Cols: c, Data: m.Data},
		"rows said one fewer":    {Rows: r - 1, Cols: c, Data: m.Data},
		"columns said one more":  {Rows: r, Cols: c + 1, Data: m.Data},
		"columns said one fewer": {Rows: r, Cols: c - 1, Data: m.Data},
		"-128 first":             {Rows: r, Cols: c, Data: with(0, -128)},
		"-128 last":              {Rows: r, Cols: c, Data: with(len(m.Data)-1, -128)},
		"rows below 0":           {Rows: -r, Cols: c, Data: m.Data},
		"both below 0":           {Rows: -r, Cols: -c, Data: m.Data},
		"rows that wrap round":   {Rows: r + 1<<62, Cols: c, Data: m.Data},
		"the least of numbers":   {Rows: math.MinInt, Cols: math.MinInt},
		"all in one row":         {Rows: 1, Cols: r * c, Data: m.Data},
		"all in one column":      {Rows: r * c, Cols: 1, Data: m.Data},
	}
	if r == 1 {
		delete(out, "all in one row")
	}
	if c == 1 {
		delete(out, "all in one column")
	}
	if r != c {
		out["rows and columns changed about"] = api.Mat{Rows: c, Cols: r, Data: m.Data}
	}
	return out
}

func TestCheckGains(t *testing.T) {
	s := testaid.Source(3)
	for _, c := range someConfigs() {
		w := s.Weights(c)
		for name, g := range gains(&w) {
			was := *g
			for what, spoilt := range map[string][]int8{
				"one too few":  was[1:],
				"one too many": append(slices.Clone(was), 1),
				"none":         {},
				"nil":          nil,
				"-128 first":   append([]int8{-128}, was[1:]...),
				"-128 last":    append(slices.Clone(was[1:]), -128),
			} {
				*g = spoilt
				unfit(t, name+" with "+what, w)
			}
			*g = was
		}
		told(t, "Check, all mended", model.Check(w), api.OK)
	}
}

func TestCheckTurns(t *testing.T) {
	s := testaid.Source(4)
	for _, c := range someConfigs() {
		w := s.Weights(c)
		was := w.Turns
		for what, spoilt := range map[string][]api.Turn{
			"nil":          nil,
			"none":         {},
			"one too few":  was[1:],
			"one too many": append(slices.Clone(was), api.Turn{}),
			"twice":        append(slices.Clone(was), was...),
		} {
			w.Turns = spoilt
			unfit(t, "turns "+what, w)
		}
		for i := range was {
			for _, n := range []int64{16384, -16384, 0, 16383, -16383} {
				for _, turn := range []api.Turn{{C: n}, {S: n}, {C: n, S: n}, {C: n, S: -n}} {
					w.Turns = slices.Clone(was)
					w.Turns[i] = turn
					told(t, "Check of a turn within Unit", model.Check(w), api.OK)
				}
			}
			for _, n := range []int64{16385, -16385, 1 << 16, -1 << 16, 1<<16 + 1, 1 << 32, math.MaxInt64, math.MinInt64} {
				for _, turn := range []api.Turn{{C: n}, {S: n}, {C: n, S: 16384}, {C: -16384, S: n}} {
					w.Turns = slices.Clone(was)
					w.Turns[i] = turn
					unfit(t, "a turn beyond Unit", w)
				}
			}
		}
	}
}

func TestCheckShifts(t *testing.T) {
	s := testaid.Source(5)
	for _, c := range someConfigs() {
		w := s.Weights(c)
		for i := range w.Layers {
			for k := range w.Layers[i].By {
				by := &w.Layers[i].By[k]
				was := *by
				for _, n := range []int{-1, 25, 255, 256, 257, -256, math.MinInt, math.MaxInt, 1 << 32} {
					*by = n
					unfit(t, "a shift out of its bounds", w)
				}
				for _, n := range []int{0, 1, 23, 24} {
					*by = n
					told(t, "Check of a shift within its bounds", model.Check(w), api.OK)
				}
				*by = was
			}
		}
	}
}

func TestCheckHowMany(t *testing.T) {
	s := testaid.Source(6)
	for _, c := range someConfigs() {
		w := s.Weights(c)
		layers, medusa := w.Layers, w.Medusa
		w.Layers = append(slices.Clone(layers), s.Layer(c))
		unfit(t, "a layer too many", w)
		w.Layers = layers[1:]
		unfit(t, "a layer too few", w)
		w.Layers = nil
		unfit(t, "nil layers", w)
		w.Layers = []api.Layer{}
		unfit(t, "no layers", w)
		w.Layers = append(slices.Clone(layers[1:]), api.Layer{})
		unfit(t, "an empty layer", w)
		w.Layers = layers
		w.Medusa = append(slices.Clone(medusa), s.Matrix(c.Vocab, c.Width))
		unfit(t, "a Medusa matrix too many", w)
		if c.Medusa > 0 {
			w.Medusa = medusa[1:]
			unfit(t, "a Medusa matrix too few", w)
			w.Medusa = nil
			unfit(t, "nil Medusa matrices", w)
		} else {
			w.Medusa = []api.Mat{}
			fits(t, "an empty list of Medusa matrices", w)
			w.Medusa = nil
			fits(t, "nil Medusa matrices", w)
		}
	}
}

// TestCheckOtherMeasures: weights of one model under the measures of another.
func TestCheckOtherMeasures(t *testing.T) {
	s := testaid.Source(7)
	base := [8]int{6, 16, 4, 2, 2, 6, 7, 2}
	w := s.Weights(config(base))
	fits(t, "the base", w)
	for what, n := range map[string][8]int{
		"Vocab": {7, 16, 4, 2, 2, 6, 7, 2}, "Width": {6, 8, 4, 2, 2, 6, 7, 2}, "Heads": {6, 16, 2, 2, 2, 6, 7, 2},
		"KV": {6, 16, 4, 4, 2, 6, 7, 2}, "Layers": {6, 16, 4, 2, 3, 6, 7, 2}, "Hidden": {6, 16, 4, 2, 2, 5, 7, 2},
		"Medusa": {6, 16, 4, 2, 2, 6, 7, 3}, "fewer of Medusa": {6, 16, 4, 2, 2, 6, 7, 1}, "fewer Layers": {6, 16, 4, 2, 1, 6, 7, 2},
	} {
		w.Config = config(n)
		unfit(t, "other measures: "+what, w)
	}
}

func TestCheckExamples(t *testing.T) {
	s := testaid.Source(8)
	c := config([8]int{5, 4, 2, 1, 1, 3, 8, 0})
	w := s.Weights(c)
	w.Embed.Data[7] = -128
	unfit(t, "-128 in Embed", w)
	w = s.Weights(c)
	w.Layers[0].By[3] = 25
	unfit(t, "a shift of 25", w)
	w = s.Weights(c)
	w.Turns[0] = api.Turn{C: 16385}
	unfit(t, "the turn (16385, 0)", w)
	w = s.Weights(c)
	w.Layers = append(w.Layers, s.Layer(c))
	unfit(t, "a layer too many", w)
	w = s.Weights(c)
	w.Config.Layers = 5
	refusedAs(t, "five layers in the measures", w, api.ErrConfig)
}

// TestCheckFirstError: measures that may not be are told ahead of weights that do not fit.
func TestCheckFirstError(t *testing.T) {
	s := testaid.Source(9)
	refusedAs(t, "the zero value", api.Weights{}, api.ErrConfig)
	w := s.Weights(config([8]int{5, 4, 2, 1, 1, 3, 8, 0}))
	w.Embed, w.Turns, w.Layers = api.Mat{}, nil, nil
	unfit(t, "all spoilt", w)
	w.Config.Heads = 0
	refusedAs(t, "all spoilt, and no heads", w, api.ErrConfig)
	w = s.Weights(config([8]int{5, 4, 2, 1, 1, 3, 8, 0}))
	w.Config.Len = 65
	refusedAs(t, "Len alone", w, api.ErrConfig)
	unfit(t, "measures without weights", api.Weights{Config: config([8]int{2, 2, 1, 1, 1, 1, 1, 0})})
}

// TestTensorTakesWhatFits: each call of tensor that the transformer makes of a model's weights answers with OK.
func TestTensorTakesWhatFits(t *testing.T) {
	s := testaid.Source(10)
	for _, c := range someConfigs() {
		m, _ := model.New(s.Weights(c))
		w := m.Weights()
		size := c.Width / c.Heads
		wide := func(mat api.Mat, v []int8) []int64 {
			out, e := tensor.MatVec(mat, v)
			told(t, "MatVec", e, api.OK)
			return out
		}
		narrow := func(v []int64, by int) []int8 {
			out, e := tensor.Narrow(v, by)
			told(t, "Narrow", e, api.OK)
			return out
		}
		norm := func(x []int64, gains []int8) []int8 {
			out, e := tensor.Norm(x, gains)
			told(t, "Norm", e, api.OK)
			return out
		}
		turns, e := tensor.Turns(w.Turns, c.Len)
		told(t, "Turns", e, api.OK)
		turned := func(v []int8) []int8 {
			out := []int8{}
			for h := 0; h < len(v); h += size {
				head, e := tensor.Rotate(v[h:h+size], turns[c.Len-1])
				told(t, "Rotate", e, api.OK)
				out = append(out, head...)
			}
			return out
		}
		x := make([]int64, c.Width)
		for i, n := range w.Embed.Data[c.Width : 2*c.Width] {
			x[i] = 256 * int64(n)
		}
		for _, l := range w.Layers {
			a := norm(x, l.Norm1)
			q, k := turned(narrow(wide(l.Q, a), l.By[0])), turned(narrow(wide(l.K, a), l.By[1]))
			v := narrow(wide(l.V, a), l.By[2])
			o := []int8{}
			for h := range c.Heads {
				g := h * c.KV / c.Heads * size
				score, e := tensor.Dot(q[h*size:(h+1)*size], k[g:g+size])
				told(t, "Dot", e, api.OK)
				shares, _ := tensor.Softmax([]int64{score})
				head, e := tensor.Blend(shares, [][]int8{v[g : g+size]})
				told(t, "Blend", e, api.OK)
				o = append(o, head...)
			}
			for i, n := range wide(l.O, o) {
				x[i] += fix.Shift(n, l.By[3])
			}
			b := norm(x, l.Norm2)
			up := narrow(wide(l.U, b), l.By[5])
			hidden := make([]int8, c.Hidden)
			for i, y := range wide(l.G, b) {
				hidden[i] = fix.Clamp8(fix.Shift(fix.Silu(fix.Shift(y, l.By[4]))*int64(up[i]), 7))
			}
			for i, n := range wide(l.D, hidden) {
				x[i] += fix.Shift(n, l.By[6])
			}
		}
		last := norm(x, w.Final)
		for _, mat := range append(w.Medusa, w.Head) {
			wide(mat, last)
		}
	}
}
