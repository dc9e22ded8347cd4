package pick_test

import (
	"math"
	"math/big"
	"slices"
	"testing"

	"augur/api"
	"augur/draw"
	"augur/fix"
	"augur/pick"
	"augur/testaid"
)

// What is here says the chapter's words a second time, one by one, in true whole numbers, however slow that is.

// lower: the whole number below a over b, for b above 0.
func lower(a, b *big.Int) *big.Int { return new(big.Int).Div(a, b) }

func times(a, b int64) *big.Int { return new(big.Int).Mul(big.NewInt(a), big.NewInt(b)) }

func wordAllowed(token int, allow []bool) bool {
	if len(allow) == 0 {
		return true
	}
	if token >= len(allow) {
		return false
	}
	return allow[token]
}

func wordScore(logits []int64, token int, seen []int, penalty int) int64 {
	c := logits[token]
	if c > 1<<24 {
		c = 1 << 24
	}
	if c < -(1 << 24) {
		c = -(1 << 24)
	}
	if !slices.Contains(seen, token) {
		return c
	}
	if c > 0 {
		return lower(times(c, 256), big.NewInt(int64(penalty))).Int64()
	}
	half := new(big.Int).Add(times(c, int64(penalty)), big.NewInt(128))
	return lower(half, big.NewInt(256)).Int64()
}

// wordOrder: the allowed tokens, each at the place that the number of those ahead of it says.
func wordOrder(logits []int64, seen []int, allow []bool, penalty int) (tokens []int, scores []int64) {
	var all []int
	score := map[int]int64{}
	for token := range logits {
		if wordAllowed(token, allow) {
			all = append(all, token)
			score[token] = wordScore(logits, token, seen, penalty)
		}
	}
	tokens, scores = make([]int, len(all)), make([]int64, len(all))
	for _, token := range all {
		ahead := 0
		for _, other := range all {
			if score[other] > score[token] || score[other] == score[token] && other < token {
				ahead++
			}
		}
		tokens[ahead], scores[ahead] = token, score[token]
	}
	return tokens, scores
}

func wordWeight(score, best int64, temp int) int64 {
	return fix.Exp(lower(times(score-best, 16384), big.NewInt(int64(temp))).Int64())
}

func weightOf(l []api.Chance) int64 {
	sum := int64(0)
	for _, c := range l {
		sum += c.Weight
	}
	return sum
}

func wordChances(p api.Params, logits []int64, seen []int, allow []bool) []api.Chance {
	tokens, scores := wordOrder(logits, seen, allow, p.Penalty)
	if p.Temp == 0 {
		if len(tokens) == 0 {
			return nil
		}
		return []api.Chance{{Token: tokens[0], Weight: 65536}}
	}
	if p.TopK != 0 && len(tokens) > p.TopK {
		tokens, scores = tokens[:p.TopK], scores[:p.TopK]
	}
	var all []api.Chance
	for i, token := range tokens {
		all = append(all, api.Chance{Token: token, Weight: wordWeight(scores[i], scores[0], p.Temp)})
	}
	for n := range all {
		if times(weightOf(all[:n]), 1000).Cmp(times(weightOf(all), int64(p.TopP))) >= 0 {
			return all[:n]
		}
	}
	return all
}

func wordChoice(p api.Params, logits []int64, seen []int, pos int, allow []bool) int {
	l := wordChances(p, logits, seen, allow)
	if len(l) == 0 {
		return 0
	}
	drawn := new(big.Int).SetUint64(draw.At(p.Seed, pos, 0))
	drawn.Mul(drawn, big.NewInt(weightOf(l)))
	drawn.Rsh(drawn, 64)
	for i, c := range l {
		if big.NewInt(weightOf(l[:i+1])).Cmp(drawn) > 0 {
			return c.Token
		}
	}
	return -1
}

// params: as the chapter's examples write them.
func params(temp, topK, topP, penalty int) api.Params {
	return api.Params{Temp: temp, TopK: topK, TopP: topP, Penalty: penalty}
}

func seeded(p api.Params, seed uint64) api.Params {
	p.Seed = seed
	return p
}

// chancesOf: what Chances answers, which must be no error.
func chancesOf(t *testing.T, p api.Params, logits []int64, seen []int, allow []bool) []api.Chance {
	t.Helper()
	l, e := pick.Chances(p, logits, seen, allow)
	if e != api.OK {
		t.Fatalf("P10.2: Chances(%v, %v, %v, %v) answered the error %d", p, logits, seen, allow, e)
	}
	return l
}

// choiceOf: what Choose answers, which must be no error.
func choiceOf(t *testing.T, p api.Params, logits []int64, seen []int, pos int, allow []bool) int {
	t.Helper()
	token, e := pick.Choose(p, logits, seen, pos, allow)
	if e != api.OK {
		t.Fatalf("P10.3: Choose(%v, %v, %v, %d, %v) answered the error %d", p, logits, seen, pos, allow, e)
	}
	return token
}

// ask: everything that a choice hangs on.
type ask struct {
	p      api.Params
	logits []int64
	seen   []int
	pos    int
	allow  []bool
}

// asWords: Chances and Choose answer what the words say.
func (a ask) asWords(t *testing.T) {
	t.Helper()
	if got, want := chancesOf(t, a.p, a.logits, a.seen, a.allow), wordChances(a.p, a.logits, a.seen, a.allow); !slices.Equal(got, want) {
		t.Errorf("P10.2: Chances(%v, %v, %v, %v) = %v, want %v", a.p, a.logits, a.seen, a.allow, got, want)
	}
	if got, want := choiceOf(t, a.p, a.logits, a.seen, a.pos, a.allow), wordChoice(a.p, a.logits, a.seen, a.pos, a.allow); got != want {
		t.Errorf("P10.3: Choose(%v, %v, %v, %d, %v) = %d, want %d", a.p, a.logits, a.seen, a.pos, a.allow, got, want)
	}
}

func oneOf[T any](s *testaid.Source, list ...T) T { return list[s.Below(len(list))] }

// someParams: ones that may be, mostly at an edge of what they may be, or of what the list's length makes of them.
func someParams(s *testaid.Source, n int) api.Params {
	topK := oneOf(s, 0, 0, 1, 2, n-1, n, n+1, 63, 64, s.Below(65))
	return api.Params{
		Temp:    oneOf(s, 0, 1, 2, 16, 255, 256, 257, 1024, 4095, 4096, s.Below(4097)),
		TopK:    min(max(topK, 0), 64),
		TopP:    oneOf(s, 1, 2, 499, 500, 501, 900, 999, 1000, 1000, 1+s.Below(1000)),
		Penalty: oneOf(s, 64, 65, 128, 255, 256, 257, 512, 1023, 1024, 64+s.Below(961)),
		Seed:    oneOf(s, 0, 1, math.MaxUint64, s.Next()),
	}
}

// someLogits: of all sizes: near each other, far from each other, alike, about 0, about and beyond Wide.
func someLogits(s *testaid.Source) []int64 {
	logits := make([]int64, oneOf(s, 0, 1, 2, 3, 4, 8, 20, 63, 64, 65, 70))
	spread := oneOf(s, 1, 2, 10, 3000, 20000, 1<<20, 1<<26)
	middle := oneOf(s, 0, 0, 0, 5000, -5000, 1<<24, -(1 << 24))
	for i := range logits {
		logits[i] = int64(middle + s.Below(spread+1) - spread/2)
		if s.Below(40) == 0 {
			logits[i] = oneOf[int64](s, math.MaxInt64, math.MinInt64, 1<<24, 1<<24+1, 1<<24-1, -(1 << 24), -(1<<24)-1, -(1<<24)+1, 0, 1, -1)
		}
	}
	return logits
}

func someSeen(s *testaid.Source, n int) []int {
	var seen []int
	for range oneOf(s, 0, 1, 2, n, 2*n) {
		seen = append(seen, oneOf(s, s.Below(n+1), s.Below(n+1), s.Below(n+1), 0, -1, n, math.MaxInt, math.MinInt))
	}
	return seen
}

func someAllow(s *testaid.Source, n int) []bool {
	allow := make([]bool, oneOf(s, 0, 0, 1, n, n, n, n/2, max(n-1, 0), n+1, 2*n+3))
	share := oneOf(s, 0, 1, 5, 9, 10)
	for i := range allow {
		allow[i] = s.Below(10) < share
	}
	return allow
}

func someAsk(s *testaid.Source) ask {
	logits := someLogits(s)
	n := len(logits)
	return ask{someParams(s, n), logits, someSeen(s, n), oneOf(s, s.Below(64), s.Below(64), 0, -1, math.MaxInt, math.MinInt), someAllow(s, n)}
}

func TestAsWords(t *testing.T) {
	s := testaid.Source(110)
	for range 20000 {
		someAsk(&s).asWords(t)
	}
}
