package fix_test

import (
	"math"
	"testing"

	"augur/api"
	"augur/fix"
)

const (
	least    = math.MinInt64
	greatest = math.MaxInt64
)

// edges: numbers around which int64 arithmetic goes wrong first, in rising order.
var edges = []int64{
	least, least + 1, least + 2, -1<<62 - 1, -1 << 62, -1<<62 + 1, -1<<61 - 1, -1 << 61, -1<<61 + 1, -1 << 40, -api.Wide - 1, -api.Wide, -api.Wide + 1,
	-1048577, -1048576, -1048575, -65537, -65536, -65535, -45427, -45426, -45425, -257, -256, -255, -129, -128, -127, -126, -3, -2, -1,
	0, 1, 2, 3, 126, 127, 128, 129, 255, 256, 257, 45425, 45426, 45427, 65535, 65536, 65537, 1048575, 1048576, 1048577,
	api.Wide - 1, api.Wide, api.Wide + 1, 1 << 40, 1<<61 - 1, 1 << 61, 1<<61 + 1, 1<<62 - 1, 1 << 62, 1<<62 + 1, greatest - 2, greatest - 1, greatest,
}

// spread: the edges, and numbers of every size between them.
func spread() []int64 {
	out := append([]int64{}, edges...)
	x := uint64(1)
	for i := range 640 {
		x = x*6364136223846793005 + 1442695040888963407
		out = append(out, int64(x)>>(i%64))
	}
	return out
}

func TestShiftExamples(t *testing.T) {
	for _, c := range []struct {
		v    int64
		s    int
		want int64
	}{
		{5, 1, 3}, {-5, 1, -2}, {6, 2, 2}, {-6, 2, -1},
		{7, 0, 7}, {7, -3, 7}, {1 << 62, 62, 1}, {1 << 62, 1000, 1}, {least, 62, -2},
		{greatest, 1, 4611686018427387904}, {greatest, 62, 2},
		{least, 0, least}, {greatest, 0, greatest}, {least, math.MinInt, least}, {greatest, -1, greatest},
		{least, 1, -1 << 62}, {least, 63, -2}, {least, math.MaxInt, -2}, {greatest, 63, 2}, {greatest, 64, 2}, {greatest, math.MaxInt, 2},
		{1 << 61, 62, 1}, {1<<61 - 1, 62, 0}, {-1 << 61, 62, 0}, {-1<<61 - 1, 62, -1},
	} {
		if got := fix.Shift(c.v, c.s); got != c.want {
			t.Errorf("P1.1: Shift(%d, %d) = %d, want %d", c.v, c.s, got, c.want)
		}
	}
}

func TestShiftIsTheTrueNumberBelow(t *testing.T) {
	shifts := []int{math.MinInt, -64, -1, 63, 64, 65, 127, 128, 1 << 32, math.MaxInt}
	for s := range 63 {
		shifts = append(shifts, s)
	}
	for _, v := range spread() {
		for _, s := range shifts {
			if got, want := fix.Shift(v, s), trueShift(big64(v), s).Int64(); got != want {
				t.Fatalf("P1.1: Shift(%d, %d) = %d, want %d", v, s, got, want)
			}
		}
	}
}

func TestShiftFollows(t *testing.T) {
	for s := 1; s <= 62; s++ {
		half := int64(1) << (s - 1)
		for v := int64(-40); v <= 40; v++ {
			whole := v % (1 << (62 - s))
			if got := fix.Shift(whole<<s, s); got != whole {
				t.Fatalf("P1.1: Shift(%d, %d) = %d, but it is a multiple", whole<<s, s, got)
			}
		}
		for i := 1; i < len(edges); i++ {
			low, high := fix.Shift(edges[i-1], s), fix.Shift(edges[i], s)
			if low > high {
				t.Fatalf("P1.1: Shift by %d falls from %d at %d to %d at %d", s, low, edges[i-1], high, edges[i])
			}
			if off := offBy(edges[i], high, s); off.CmpAbs(big64(half)) > 0 {
				t.Fatalf("P1.1: Shift(%d, %d) = %d is off by %s", edges[i], s, high, off)
			}
		}
	}
}

func TestClamp(t *testing.T) {
	for _, c := range [][3]int64{
		{9, 5, 5}, {-9, 5, -5}, {-3, 5, -3}, {3, -1, 0},
		{5, 5, 5}, {-5, 5, -5}, {6, 5, 5}, {-6, 5, -5}, {4, 5, 4}, {0, 5, 0},
		{7, 0, 0}, {-7, 0, 0}, {0, 0, 0}, {-3, -1, 0}, {0, -1, 0}, {greatest, least, 0}, {least, least, 0},
		{greatest, greatest, greatest}, {least, greatest, -greatest}, {least + 1, greatest, -greatest}, {greatest, greatest - 1, greatest - 1}, {least, 1, -1},
	} {
		if got := fix.Clamp(c[0], c[1]); got != c[2] {
			t.Errorf("P1.2: Clamp(%d, %d) = %d, want %d", c[0], c[1], got, c[2])
		}
	}
}

func TestClampEverywhere(t *testing.T) {
	for _, v := range spread() {
		for _, most := range edges {
			want := v
			if bound := max(most, 0); v > bound {
				want = bound
			} else if v < -bound {
				want = -bound
			}
			if got := fix.Clamp(v, most); got != want {
				t.Fatalf("P1.2: Clamp(%d, %d) = %d, want %d", v, most, got, want)
			}
		}
	}
}

func TestClamp8(t *testing.T) {
	for v := int64(-300); v <= 300; v++ {
		if got, want := fix.Clamp8(v), int8(min(max(v, -127), 127)); got != want {
			t.Errorf("P1.2: Clamp8(%d) = %d, want %d", v, got, want)
		}
	}
	for _, v := range spread() {
		if got, want := fix.Clamp8(v), fix.Clamp(v, 127); int64(got) != want {
			t.Errorf("P1.2: Clamp8(%d) = %d, want %d", v, got, want)
		}
	}
}

func TestSqrt(t *testing.T) {
	for _, c := range [][2]int64{
		{-4, 0}, {0, 0}, {3, 1}, {4, 2}, {greatest, 3037000499},
		{least, 0}, {-1, 0}, {1, 1}, {2, 1}, {8, 2}, {9, 3}, {1 << 62, 1 << 31}, {1<<62 - 1, 1<<31 - 1},
		{3037000499 * 3037000499, 3037000499}, {3037000499*3037000499 - 1, 3037000498}, {3037000499*3037000499 + 1, 3037000499},
	} {
		if got := fix.Sqrt(c[0]); got != c[1] {
			t.Errorf("P1.3: Sqrt(%d) = %d, want %d", c[0], got, c[1])
		}
	}
}

func TestSqrtIsTheGreatest(t *testing.T) {
	vs := spread()
	for v := range int64(70000) {
		vs = append(vs, v)
	}
	for bit := range 31 {
		for off := int64(-2); off <= 2; off++ {
			root := int64(1)<<bit + off
			vs = append(vs, root*root-1, root*root, root*root+1)
		}
	}
	for _, v := range vs {
		got := fix.Sqrt(v)
		if v <= 0 {
			if got != 0 {
				t.Fatalf("P1.3: Sqrt(%d) = %d, want 0", v, got)
			}
			continue
		}
		if got < 0 || square(got).Cmp(big64(v)) > 0 || square(got+1).Cmp(big64(v)) <= 0 {
			t.Fatalf("P1.3: Sqrt(%d) = %d", v, got)
		}
	}
}

func TestDiv(t *testing.T) {
	for _, c := range [][3]int64{
		{7, 2, 3}, {-7, 2, -4}, {7, 0, 0}, {7, -2, 0}, {-1, greatest, -1},
		{0, 5, 0}, {6, 3, 2}, {-6, 3, -2}, {-1, 1, -1}, {1, 2, 0}, {-1, 2, -1}, {0, 0, 0}, {-7, 0, 0}, {-7, -1, 0},
		{least, 1, least}, {least, 2, -1 << 62}, {least, greatest, -2}, {least, -1, 0}, {least, least, 0}, {least, 0, 0},
		{greatest, 1, greatest}, {greatest, greatest, 1}, {greatest - 1, greatest, 0}, {-greatest, greatest, -1}, {greatest, least, 0},
	} {
		if got := fix.Div(c[0], c[1]); got != c[2] {
			t.Errorf("P1.4: Div(%d, %d) = %d, want %d", c[0], c[1], got, c[2])
		}
	}
}

func TestDivIsTheNumberBelow(t *testing.T) {
	for _, a := range spread() {
		for _, b := range edges {
			want := int64(0)
			if b > 0 {
				want = below(big64(a), big64(b)).Int64()
			}
			if got := fix.Div(a, b); got != want {
				t.Fatalf("P1.4: Div(%d, %d) = %d, want %d", a, b, got, want)
			}
		}
	}
}
