package pick_test

import (
	"math"
	"testing"

	"augur/api"
	"augur/pick"
	"augur/testaid"
)

// parts: the parameters with a least and a greatest value.
func parts() []struct {
	name        string
	least, most int
	set         func(p *api.Params, v int)
} {
	return []struct {
		name        string
		least, most int
		set         func(p *api.Params, v int)
	}{
		{"Temp", 0, 4096, func(p *api.Params, v int) { p.Temp = v }},
		{"TopK", 0, 64, func(p *api.Params, v int) { p.TopK = v }},
		{"TopP", 1, 1000, func(p *api.Params, v int) { p.TopP = v }},
		{"Penalty", 64, 1024, func(p *api.Params, v int) { p.Penalty = v }},
	}
}

// refused: all three functions answer ErrParams, and nothing beside it, whatever else they are given.
func refused(t *testing.T, p api.Params) {
	t.Helper()
	if e := pick.Check(p); e != api.ErrParams {
		t.Errorf("P10.1: Check(%v) = %d, want ErrParams", p, e)
	}
	for _, logits := range [][]int64{nil, {5}, {1, 2, 3}} {
		for _, allow := range [][]bool{nil, {true}, {false, false, true}, {false}} {
			if l, e := pick.Chances(p, logits, []int{2}, allow); e != api.ErrParams || len(l) != 0 {
				t.Errorf("P10.2: Chances(%v, %v, 2, %v) = %v, %d, want ErrParams", p, logits, allow, l, e)
			}
			if token, e := pick.Choose(p, logits, []int{2}, 1, allow); e != api.ErrParams || token != 0 {
				t.Errorf("P10.3: Choose(%v, %v, 2, 1, %v) = %d, %d, want ErrParams", p, logits, allow, token, e)
			}
		}
	}
}

func accepted(t *testing.T, p api.Params) {
	t.Helper()
	if e := pick.Check(p); e != api.OK {
		t.Errorf("P10.1: Check(%v) = %d", p, e)
	}
	ask{p, []int64{3000, 5000, 5000, -1000}, []int{1, 3}, 4, nil}.asWords(t)
}

func TestCheckEachPart(t *testing.T) {
	for _, part := range parts() {
		for _, middle := range []api.Params{params(256, 0, 1000, 256), params(0, 0, 1, 64), params(4096, 64, 1000, 1024)} {
			for v := part.least; v <= part.most; v++ {
				p := middle
				part.set(&p, v)
				if e := pick.Check(p); e != api.OK {
					t.Errorf("P10.1: Check(%v) = %d", p, e)
				}
			}
			for _, v := range []int{part.least, part.least + 1, part.most - 1, part.most} {
				p := middle
				part.set(&p, v)
				accepted(t, p)
			}
			for _, v := range []int{part.least - 1, part.least - 256, part.most + 1, part.most + 256, part.most + 1<<32, math.MinInt, math.MaxInt} {
				p := middle
				part.set(&p, v)
				refused(t, p)
			}
		}
	}
}

// The last of the chapter's examples: each of the four alone is wrong.
func TestCheckExamples(t *testing.T) {
	refused(t, params(4097, 0, 1000, 256))
	refused(t, params(256, 65, 1000, 256))
	refused(t, params(256, 0, 0, 256))
	refused(t, params(256, 0, 1000, 63))
	refused(t, params(4097, 65, 0, 63))
}

func TestCheckZero(t *testing.T) {
	refused(t, api.Params{})
	refused(t, api.Params{Seed: 7})
}

// Several wrong parts, and wrong ones beside right ones.
func TestCheckSeveral(t *testing.T) {
	s := testaid.Source(111)
	for range 2000 {
		p := params(256, 5, 900, 300)
		may := true
		for _, part := range parts() {
			v := oneOf(&s, part.least, part.most, part.least+s.Below(part.most-part.least+1), part.least-1, part.most+1)
			part.set(&p, v)
			may = may && v >= part.least && v <= part.most
		}
		if may {
			accepted(t, p)
		} else {
			refused(t, p)
		}
	}
}

func TestCheckAnySeed(t *testing.T) {
	for _, seed := range []uint64{0, 1, 5, 1 << 63, math.MaxUint64} {
		accepted(t, seeded(params(256, 0, 1000, 256), seed))
		refused(t, seeded(params(-1, 0, 1000, 256), seed))
	}
}
