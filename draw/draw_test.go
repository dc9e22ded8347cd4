package draw_test

import (
	"math"
	"math/big"
	"testing"

	"augur/draw"
)

const (
	golden   = 0x9e3779b97f4a7c15
	greatest = math.MaxUint64
)

// spread: the edges of 64 bits, and numbers of every size between them.
func spread() []uint64 {
	out := []uint64{0, greatest}
	for s := range 64 {
		out = append(out, 1<<s, 1<<s-1, 1<<s+1, -(1 << s), ^uint64(1<<s))
	}
	x := uint64(1)
	for i := range 256 {
		x = x*6364136223846793005 + 1442695040888963407
		out = append(out, x>>(i%64))
	}
	return out
}

// truth holds the chapter's words over unbounded whole numbers.
type truth struct{ word, low *big.Int }

func newTruth() truth {
	word := new(big.Int).Lsh(big.NewInt(1), 64)
	return truth{word, new(big.Int).Sub(word, big.NewInt(1))}
}

func whole(x uint64) *big.Int { return new(big.Int).SetUint64(x) }

func (w truth) times(a, b *big.Int) *big.Int {
	p := new(big.Int).Mul(a, b)
	return p.And(p, w.low)
}

func (w truth) plus(a, b *big.Int) *big.Int {
	s := new(big.Int).Add(a, b)
	return s.And(s, w.low)
}

func shiftedXor(x *big.Int, s uint) *big.Int {
	return new(big.Int).Xor(x, new(big.Int).Rsh(x, s))
}

// mix is P2.1, word by word.
func (w truth) mix(x *big.Int) *big.Int {
	a := w.times(shiftedXor(x, 30), whole(0xbf58476d1ce4e5b9))
	b := w.times(shiftedXor(a, 27), whole(0x94d049bb133111eb))
	return shiftedXor(b, 31)
}

// place is an int as the number of 64 bits with the same bits: one below 0 lacks 2^64.
func (w truth) place(p int) *big.Int {
	x := big.NewInt(int64(p))
	if p < 0 {
		x.Add(x, w.word)
	}
	return x
}

// at is P2.2, word by word.
func (w truth) at(seed uint64, pos, lane int) *big.Int {
	a := w.mix(w.plus(whole(seed), whole(golden)))
	b := w.mix(w.plus(a, w.times(whole(golden), w.place(pos))))
	return w.mix(w.plus(b, w.times(whole(golden), w.place(lane))))
}

// places: the edges of an int, and those around 0.
func places() []int {
	return []int{math.MinInt, math.MinInt + 1, -1 << 62, -1<<32 - 1, -1 << 32, -257, -3, -2, -1, 0, 1, 2, 3, 4, 7, 255, 65535, 1<<31 - 1, 1 << 31, 1<<32 - 1, 1 << 32, 1 << 62, math.MaxInt - 1, math.MaxInt}
}

func TestMixExamples(t *testing.T) {
	for _, c := range []struct{ x, want uint64 }{
		{0, 0},
		{0x9e3779b97f4a7c15, 0xe220a8397b1dcdaf},
		{0x3c6ef372fe94f82a, 0x6e789e6aa1b965f4},
		{1, 0x5692161d100b05e5},
		{greatest, 0xb4d055fcf2cbbd7b},
	} {
		if got := draw.Mix(c.x); got != c.want {
			t.Errorf("P2.1: Mix(%x) = %x, want %x", c.x, got, c.want)
		}
	}
}

func TestMixIsTheChaptersRule(t *testing.T) {
	w := newTruth()
	for _, x := range spread() {
		if got, want := draw.Mix(x), w.mix(whole(x)); whole(got).Cmp(want) != 0 {
			t.Errorf("P2.1: Mix(%x) = %x, want %x", x, got, want)
		}
	}
}

// unshift: the number x for which x ^ (x >> s) is y, its highest bits first.
func unshift(y uint64, s int) uint64 {
	x := y
	for done := s; done < 64; done += s {
		x = y ^ x>>s
	}
	return x
}

// inverse: the number by which an odd factor becomes 1; each round doubles the bits that are right.
func inverse(f uint64) uint64 {
	x := f
	for range 6 {
		x *= 2 - f*x
	}
	return x
}

func unmix(y uint64) uint64 {
	b := unshift(y, 31)
	a := unshift(b*inverse(0x94d049bb133111eb), 27)
	return unshift(a*inverse(0xbf58476d1ce4e5b9), 30)
}

func TestMixIsOneToOne(t *testing.T) {
	for _, x := range spread() {
		if back := unmix(draw.Mix(x)); back != x {
			t.Errorf("P2.1: what is mixed to Mix(%x) is %x", x, back)
		}
		if got := draw.Mix(unmix(x)); got != x {
			t.Errorf("P2.1: %x is no number's mixing: %x is mixed to %x", x, unmix(x), got)
		}
	}
	seen := map[uint64]uint64{}
	for x := range uint64(1 << 17) {
		y := draw.Mix(x)
		if o, ok := seen[y]; ok {
			t.Fatalf("P2.1: %x and %x are both mixed to %x", o, x, y)
		}
		seen[y] = x
	}
}

func TestAtExamples(t *testing.T) {
	if got, want := draw.At(0, 0, 0), draw.Mix(draw.Mix(0xe220a8397b1dcdaf)); got != want {
		t.Errorf("P2.2: At(0, 0, 0) = %x, want %x", got, want)
	}
	four := []uint64{draw.At(7, 3, 0), draw.At(7, 3, 1), draw.At(7, 4, 0), draw.At(8, 3, 0)}
	for i, x := range four {
		for _, y := range four[:i] {
			if x == y {
				t.Errorf("P2.2: two of %x are the same", four)
			}
		}
	}
}

func TestAtIsTheChaptersRule(t *testing.T) {
	w := newTruth()
	for _, seed := range []uint64{0, 1, 2, 7, 1 << 63, 1<<63 - 1, greatest - golden + 1, greatest - 1, greatest} {
		for _, pos := range places() {
			for _, lane := range places() {
				if got, want := draw.At(seed, pos, lane), w.at(seed, pos, lane); whole(got).Cmp(want) != 0 {
					t.Fatalf("P2.2: At(%x, %d, %d) = %x, want %x", seed, pos, lane, got, want)
				}
			}
		}
	}
}

func TestAtBelowZero(t *testing.T) {
	a := draw.Mix(draw.Mix(5+golden) - golden)
	if got, want := draw.At(5, -1, 0), draw.Mix(a); got != want {
		t.Errorf("P2.2: At(5, -1, 0) = %x, want %x: -1 times G is -G", got, want)
	}
	b := draw.Mix(draw.Mix(5 + golden))
	if got, want := draw.At(5, 0, -1), draw.Mix(b-golden); got != want {
		t.Errorf("P2.2: At(5, 0, -1) = %x, want %x: -1 times G is -G", got, want)
	}
}

// unlike: that f gives no two of its n places the same draw.
func unlike(t *testing.T, what string, n int, f func(i int) uint64) {
	t.Helper()
	seen := map[uint64]int{}
	for i := range n {
		x := f(i)
		if o, ok := seen[x]; ok {
			t.Fatalf("P2.2: the draws of the %ss %d and %d are both %x", what, o, i, x)
		}
		seen[x] = i
	}
}

func TestDrawsUnlikeInOneAreUnlike(t *testing.T) {
	few := []int{math.MinInt, -2, -1, 0, 1, 5, math.MaxInt}
	for _, p := range few {
		for _, q := range few {
			unlike(t, "seed", 3000, func(i int) uint64 { return draw.At(uint64(i-1500), p, q) })
			unlike(t, "position", 3000, func(i int) uint64 { return draw.At(uint64(p), i-1500, q) })
			unlike(t, "lane", 3000, func(i int) uint64 { return draw.At(uint64(p), q, i-1500) })
		}
	}
}

func TestPlacesAreNotExchanged(t *testing.T) {
	if draw.At(1, 2, 3) == draw.At(1, 3, 2) || draw.At(1, 2, 3) == draw.At(2, 1, 3) || draw.At(1, 2, 3) == draw.At(3, 2, 1) {
		t.Errorf("P2.2: seed, position and lane can be exchanged")
	}
}

func TestBelowExamples(t *testing.T) {
	for _, c := range []struct{ u, n, want uint64 }{
		{greatest, 10, 9}, {1 << 63, 3, 1},
		{0, 0, 0}, {1, 0, 0}, {greatest, 0, 0},
		{0, 1, 0}, {1, 1, 0}, {greatest, 1, 0},
		{0, 7, 0}, {0, greatest, 0}, {1, greatest, 0}, {2, greatest, 1},
		{greatest, greatest, greatest - 1}, {greatest, 2, 1}, {greatest - 1, greatest, greatest - 2},
		{1 << 63, 2, 1}, {1<<63 - 1, 2, 0}, {1 << 63, 1, 0}, {1 << 32, 1 << 32, 1}, {1<<32 - 1, 1 << 32, 0}, {1 << 32, 1<<32 - 1, 0},
		{1<<32 + 1, 1<<32 - 1, 0}, {1 << 63, 1 << 63, 1 << 62}, {1<<63 - 1, 1 << 63, 1<<62 - 1},
		{0x5555555555555555, 3, 0}, {0x5555555555555556, 3, 1}, {0xaaaaaaaaaaaaaaaa, 3, 1}, {0xaaaaaaaaaaaaaaab, 3, 2},
	} {
		if got := draw.Below(c.u, c.n); got != c.want {
			t.Errorf("P2.3: Below(%x, %x) = %x, want %x", c.u, c.n, got, c.want)
		}
	}
}

func TestBelowIsTheTrueNumberBelow(t *testing.T) {
	for _, u := range spread() {
		for _, n := range spread() {
			p := new(big.Int).Mul(whole(u), whole(n))
			got := draw.Below(u, n)
			if want := p.Rsh(p, 64); whole(got).Cmp(want) != 0 {
				t.Fatalf("P2.3: Below(%x, %x) = %x, want %x", u, n, got, want)
			}
			if got >= n && n > 0 {
				t.Fatalf("P2.3: Below(%x, %x) = %x is not below n", u, n, got)
			}
		}
	}
}

// firstOf: the least u of which Below(u, n) is k: k times 2^64 over n, rounded up.
func firstOf(w truth, k, n uint64) *big.Int {
	p := new(big.Int).Mul(whole(k), w.word)
	p.Add(p, whole(n-1))
	return p.Div(p, whole(n))
}

// TestBelowAtTheSteps: k becomes k + 1 just where the product reaches a multiple of 2^64.
func TestBelowAtTheSteps(t *testing.T) {
	w := newTruth()
	for _, n := range spread() {
		if n < 2 {
			continue
		}
		for _, k := range []uint64{1, n / 3, n / 2, n - 1} {
			if k == 0 {
				continue
			}
			u := firstOf(w, k, n).Uint64()
			if at, ahead := draw.Below(u, n), draw.Below(u-1, n); at != k || ahead != k-1 {
				t.Errorf("P2.3: Below(%x, %x) = %x and one lower %x, want %x and %x", u, n, at, ahead, k, k-1)
			}
		}
	}
}

// TestBelowIsEven: each k has 2^64/n numbers, rounded down or up.
func TestBelowIsEven(t *testing.T) {
	w := newTruth()
	for _, n := range []uint64{1, 2, 3, 5, 7, 10, 255, 256, 257} {
		share := new(big.Int).Div(w.word, whole(n))
		for k := range n {
			first, behind := firstOf(w, k, n), firstOf(w, k+1, n)
			last := new(big.Int).Sub(behind, big.NewInt(1))
			if draw.Below(first.Uint64(), n) != k || draw.Below(last.Uint64(), n) != k {
				t.Errorf("P2.3: Below(.., %d) is not %d from %x to %x", n, k, first, last)
			}
			more := new(big.Int).Sub(new(big.Int).Sub(behind, first), share)
			if more.Sign() < 0 || more.Cmp(big.NewInt(1)) > 0 {
				t.Errorf("P2.3: Below(.., %d) has %d more than its share of numbers for %d", n, more, k)
			}
		}
	}
}

func TestBelowNeverFalls(t *testing.T) {
	for _, u := range spread() {
		for _, n := range spread() {
			got := draw.Below(u, n)
			if u < greatest && draw.Below(u+1, n) < got {
				t.Fatalf("P2.3: Below falls from u = %x to the next, n = %x", u, n)
			}
			if n < greatest && draw.Below(u, n+1) < got {
				t.Fatalf("P2.3: Below falls from n = %x to the next, u = %x", n, u)
			}
		}
	}
}

func TestBelowOfAProduct(t *testing.T) {
	for _, u := range spread() {
		for _, n := range []uint64{0, 1, 2, 3, 10, 255, 65537, 1<<32 - 1, 1 << 32, 1 << 40, 1<<63 - 1, 1 << 63, greatest} {
			for _, m := range []uint64{1, 2, 3, 7, 100, 65536, 1<<24 - 1, 1<<32 - 1, greatest} {
				if n > greatest/m {
					continue
				}
				if got, want := draw.Below(u, n*m)/m, draw.Below(u, n); got != want {
					t.Fatalf("P2.3: Below(%x, %x times %x) over %x = %x, want %x", u, n, m, m, got, want)
				}
			}
		}
	}
}
