package engine_test

import (
	"math"
	"slices"
	"strings"
	"testing"

	"augur/api"
	"augur/engine"
	"augur/testaid"
)

// fault: one way in which an ask is wrong.
type fault struct {
	spoil func(a *api.Ask)
	want  api.Errno
}

// faults: in the order in which P20.2 names them, each missed by as little as can be and by far.
func faults() []fault {
	prompt := func(tokens ...int) func(a *api.Ask) { return func(a *api.Ask) { a.Prompt = tokens } }
	add := func(token int) func(a *api.Ask) {
		return func(a *api.Ask) { a.Prompt = append(slices.Clone(a.Prompt), token) }
	}
	long := func(n int) func(a *api.Ask) {
		return func(a *api.Ask) { a.Prompt = append(slices.Clone(a.Prompt), make([]int, max(n-len(a.Prompt), 0))...) }
	}
	fresh := func(n int) func(a *api.Ask) { return func(a *api.Ask) { a.New = n } }
	kind := func(n int) func(a *api.Ask) { return func(a *api.Ask) { a.Proposer = n } }
	params := func(p api.Params) func(a *api.Ask) { return func(a *api.Ask) { a.Params = p } }
	guided := func(expr string) func(a *api.Ask) { return func(a *api.Ask) { a.Guide = expr } }
	return []fault{
		{prompt(), api.ErrEmpty},
		{long(13), api.ErrLong}, {long(1 << 20), api.ErrLong},
		{add(3), api.ErrToken}, {add(-1), api.ErrToken}, {add(math.MinInt), api.ErrToken}, {add(math.MaxInt), api.ErrToken},
		{fresh(0), api.ErrArg}, {fresh(-1), api.ErrArg}, {fresh(math.MinInt), api.ErrArg},
		{kind(-1), api.ErrArg}, {kind(5), api.ErrArg}, {kind(math.MinInt), api.ErrArg}, {kind(math.MaxInt), api.ErrArg},
		{fresh(12), api.ErrLong}, {fresh(math.MaxInt), api.ErrLong}, {fresh(math.MaxInt - 1), api.ErrLong},
		{params(api.Params{}), api.ErrParams}, {params(api.Params{Temp: -1, TopP: 1, Penalty: 64}), api.ErrParams}, {params(api.Params{TopK: 65, TopP: 1, Penalty: 64}), api.ErrParams},
		{guided("("), api.ErrRegex}, {guided(strings.Repeat("a", 65)), api.ErrRegex}, {guided("(a|b)*a(a|b)(a|b)(a|b)(a|b)(a|b)(a|b)"), api.ErrStates}, {guided("c"), api.ErrGuide}, {guided("a*cb*"), api.ErrGuide},
	}
}

func fine() api.Ask { return api.Ask{Prompt: []int{1}, New: 1, Params: greedy} }

// rank: where P20.2 names what this fault is about.
func (f fault) rank() int {
	a := fine()
	f.spoil(&a)
	switch {
	case f.want == api.ErrLong && a.New > 1:
		return 4
	case f.want == api.ErrParams:
		return 5
	case a.Guide != "":
		return 6
	}
	return slices.Index([]api.Errno{api.ErrEmpty, api.ErrLong, api.ErrToken, api.ErrArg}, f.want)
}

// P20.2: each fault, and of any two the one that is named first; what is refused has no number.
func TestSubmitRefuses(t *testing.T) {
	g := tinyEngine(t)
	refused := func(a api.Ask, want api.Errno) {
		t.Helper()
		if id, e := g.Submit(a); id != 0 || e != want {
			t.Errorf("P20.2: New %d, Proposer %d, %d tokens, %+v, %q: %d, %d, want %d", a.New, a.Proposer, len(a.Prompt), a.Params, a.Guide, id, e, want)
		}
	}
	all := faults()
	for i, f := range all {
		a := fine()
		f.spoil(&a)
		refused(a, f.want)
		for _, later := range all[i+1:] {
			a := fine()
			later.spoil(&a)
			f.spoil(&a)
			// A fault may take the other's place: a prompt, a New or a Guide of its own.
			if f.rank() < later.rank() {
				refused(a, f.want)
			}
		}
	}
	if len(g.Live()) != 0 {
		t.Errorf("P20.2: live: %v", g.Live())
	}
	asks(t, g, 1, fine())
}

// P20.2: a prompt of just Len tokens is not too long by itself: what is named behind that comes ahead of the sum.
func TestSubmitWholeLength(t *testing.T) {
	g := tinyEngine(t)
	prompt := make([]int, 12)
	wrong := slices.Clone(prompt)
	wrong[11] = 3
	for i, c := range []struct {
		ask  api.Ask
		want api.Errno
	}{
		{api.Ask{Prompt: wrong, New: 1, Params: greedy}, api.ErrToken},
		{api.Ask{Prompt: prompt, New: 0, Params: greedy}, api.ErrArg},
		{api.Ask{Prompt: prompt, New: 1, Params: greedy, Proposer: 5}, api.ErrArg},
		{api.Ask{Prompt: prompt, New: 1, Guide: "("}, api.ErrLong},
		{api.Ask{Prompt: prompt[:11], New: 2, Params: greedy}, api.ErrLong},
		{api.Ask{Prompt: prompt[:11], New: 1}, api.ErrParams},
	} {
		if id, e := g.Submit(c.ask); id != 0 || e != c.want {
			t.Errorf("P20.2: row %d: %d, %d, want %d", i, id, e, c.want)
		}
	}
}

// P20.2: what is just not refused.
func TestSubmitAccepts(t *testing.T) {
	g := tinyEngine(t)
	for i, a := range []api.Ask{
		{Prompt: []int{0}, New: 11, Params: greedy},
		{Prompt: []int{0, 1, 2, 0, 1, 2, 0, 1, 2, 0, 1}, New: 1, Params: greedy, Proposer: api.PRaw},
		{Prompt: []int{2}, New: 1, Params: api.Params{Temp: 4096, TopK: 64, TopP: 1, Penalty: 1024, Seed: math.MaxUint64}, Proposer: api.PGram},
		{Prompt: []int{2}, New: 1, Params: greedy, Proposer: api.PMedusa, Guide: "()"},
		{Prompt: []int{2}, New: 1, Params: greedy, Proposer: api.PBoth, Guide: "c|a"},
	} {
		asks(t, g, i+1, a)
		polls(t, g, i+1, api.Waiting)
	}
}

// P20.2: MaxLive at most, ahead of every other error; numbers are never given twice.
func TestMany(t *testing.T) {
	g := tinyEngine(t)
	for i := range api.MaxLive {
		asks(t, g, i+1, fine())
	}
	for _, a := range []api.Ask{fine(), {}, {Prompt: make([]int, 99)}} {
		if id, e := g.Submit(a); id != 0 || e != api.ErrMany {
			t.Errorf("P20.2: a 17th live one: %d, %d", id, e)
		}
	}
	g.Cancel(4)
	if id, e := g.Submit(api.Ask{}); id != 0 || e != api.ErrEmpty {
		t.Errorf("P20.2: %d, %d", id, e)
	}
	asks(t, g, 17, fine())
	g.Step(9)
	polls(t, g, 9, api.Done, 1)
	asks(t, g, 18, fine())
	if want := []int{1, 2, 3, 5, 6, 7, 8, 10, 11, 12, 13, 14, 15, 16, 17, 18}; !slices.Equal(g.Live(), want) {
		t.Errorf("P20.5: live: %v, want %v", g.Live(), want)
	}
	for _, id := range g.Live() {
		g.Cancel(id)
	}
	asks(t, g, 19, fine())
}

// strangers: numbers of no request where there were so many.
func strangers(n int) []int { return []int{0, -1, n + 1, math.MinInt, math.MaxInt} }

// P20.3: the errors in their order.
func TestOfferRefuses(t *testing.T) {
	g := tinyEngine(t)
	many := make([]api.RawNode, api.MaxRaw+1)
	for kind := range 5 {
		a := fine()
		a.Proposer = kind
		asks(t, g, kind+1, a)
		want, long := api.ErrArg, api.ErrArg
		if kind == api.PRaw {
			want, long = api.OK, api.ErrTree
		}
		for _, raw := range [][]api.RawNode{nil, {}, testaid.RawOf(-1, 1), many[:api.MaxRaw]} {
			if e := g.Offer(kind+1, raw); e != want {
				t.Errorf("P20.3: %d nodes offered to one of the kind %d: %d, want %d", len(raw), kind, e, want)
			}
		}
		for _, raw := range [][]api.RawNode{many, make([]api.RawNode, 1<<20)} {
			if e := g.Offer(kind+1, raw); e != long {
				t.Errorf("P20.3: %d nodes offered to one of the kind %d: %d, want %d", len(raw), kind, e, long)
			}
		}
	}
	g.Cancel(5)
	for _, id := range append(strangers(5), 5) {
		if e := g.Offer(id, many); e != api.ErrRequest {
			t.Errorf("P20.3: offered to %d: %d", id, e)
		}
	}
}

// P20.4 to P20.6: of numbers that are nobody's, and of requests that are over.
func TestNobody(t *testing.T) {
	g := tinyEngine(t)
	for id := range 3 {
		asks(t, g, id+1, api.Ask{Prompt: []int{1, 2}, New: 3, Params: greedy})
	}
	g.Step(1, 2, 3)
	g.Step(1, 2, 3)
	g.Cancel(2)
	for range 3 {
		g.Step(3)
	}
	for _, id := range append(strangers(3), 2, 3) {
		if e := g.Cancel(id); e != api.ErrRequest {
			t.Errorf("P20.4: Cancel(%d): %d", id, e)
		}
		if n, e := g.Filled(id); n != 0 || e != api.ErrRequest {
			t.Errorf("P20.6: Filled(%d): %d, %d", id, n, e)
		}
		if b, e := g.Blocks(id); len(b) != 0 || e != api.ErrRequest {
			t.Errorf("P20.6: Blocks(%d): %v, %d", id, b, e)
		}
		for _, layer := range []int{0, 7} {
			if k, v, e := g.Cached(id, layer, 0); len(k) != 0 || len(v) != 0 || e != api.ErrRequest {
				t.Errorf("P20.6: Cached(%d): %v, %v, %d", id, k, v, e)
			}
		}
	}
	for _, id := range strangers(3) {
		if s, e := g.Poll(id); e != api.ErrRequest || !testaid.SameState(s, api.State{}) {
			t.Errorf("P20.5: Poll(%d): %v, %d", id, s, e)
		}
	}
	if s, e := g.Poll(2); e != api.OK || s.Status != api.Cancelled || len(s.Tokens) != 1 {
		t.Errorf("P20.5: a cancelled one keeps what it answered: %v, %d", s, e)
	}
	if s, e := g.Poll(3); e != api.OK || s.Status != api.Done {
		t.Errorf("P20.5: %v, %d", s, e)
	}
	if !slices.Equal(g.Live(), []int{1}) {
		t.Errorf("P20.5: live: %v", g.Live())
	}
}

// P20.6: Filled, Blocks and Cached of a live request; there is no such layer, no such position.
func TestTables(t *testing.T) {
	g := tinyEngine(t)
	asks(t, g, 1, api.Ask{Prompt: []int{1, 2, 1, 2, 1}, New: 3, Params: greedy})
	blocks := func(want int) {
		t.Helper()
		b, e := g.Blocks(1)
		slices.Sort(b)
		if len(slices.Compact(b)) != want || e != api.OK || want > 0 && (b[0] < 0 || b[len(b)-1] >= 8) {
			t.Errorf("P20.6: Blocks: %v, %d, want %d of them", b, e, want)
		}
	}
	places := func(cached int) {
		t.Helper()
		fills(t, g, 1, cached)
		for _, layer := range []int{-1, 0, 1, math.MinInt, math.MaxInt} {
			for _, pos := range []int{-1, 0, 1, 2, 3, 4, 5, math.MinInt, math.MaxInt} {
				want := api.ErrArg
				if layer == 0 && pos >= 0 && pos < cached {
					want = api.OK
				}
				k, v, e := g.Cached(1, layer, pos)
				if e != want || (len(k) == 2) != (e == api.OK) || (len(v) == 2) != (e == api.OK) {
					t.Errorf("P20.6: Cached(1, %d, %d): %v, %v, %d, want %d", layer, pos, k, v, e, want)
				}
			}
		}
	}
	blocks(0)
	places(0)
	steps(t, g, api.Did{Id: 1, Prefill: 3})
	blocks(2)
	places(3)
	steps(t, g, api.Did{Id: 1, Prefill: 1})
	blocks(2)
	places(4)
}

// R3: of a nil engine.
func TestNil(t *testing.T) {
	var g *engine.Engine
	if id, e := g.Submit(fine()); id != 0 || e != api.ErrArg {
		t.Errorf("R3: Submit: %d, %d", id, e)
	}
	if e := g.Offer(1, make([]api.RawNode, 99)); e != api.ErrArg {
		t.Errorf("R3: Offer: %d", e)
	}
	if e := g.Cancel(1); e != api.ErrArg {
		t.Errorf("R3: Cancel: %d", e)
	}
	if s, e := g.Poll(1); e != api.ErrArg || !testaid.SameState(s, api.State{}) {
		t.Errorf("R3: Poll: %v, %d", s, e)
	}
	if k, v, e := g.Cached(1, 0, 0); k != nil || v != nil || e != api.ErrArg {
		t.Errorf("R3: Cached: %v, %v, %d", k, v, e)
	}
	if n, e := g.Filled(1); n != 0 || e != api.ErrArg {
		t.Errorf("R3: Filled: %d, %d", n, e)
	}
	if b, e := g.Blocks(1); len(b) != 0 || e != api.ErrArg {
		t.Errorf("R3: Blocks: %v, %d", b, e)
	}
	if r := g.Step(1, 2); !testaid.SameReport(r, api.Report{}) {
		t.Errorf("R3: Step: %+v", r)
	}
	if len(g.Live()) != 0 {
		t.Errorf("R3: Live: %v", g.Live())
	}
	rooms(t, g, 0, 0, 0, 0)
}
