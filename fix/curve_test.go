package fix_test

import (
	"math"
	"testing"

	"augur/api"
	"augur/fix"
)

// firstZero: the first place downwards where Exp rounds to 0: from there on e to the z is less than half of the last bit.
const firstZero = -772243

func TestExpExamples(t *testing.T) {
	for _, c := range [][2]int64{
		{0, 65536}, {5, 65536}, {-1, 65535}, {-32768, 39749}, {-45426, 32768}, {-65536, 24110}, {-131072, 8869},
		{-786432, 0}, {-1048577, 0},
		{1, 65536}, {greatest, 65536}, {-45425, 32771}, {-45427, 32768}, {-1048576, 0}, {-1048575, 0}, {least, 0}, {least + 1, 0},
	} {
		if got := fix.Exp(c[0]); got != c[1] {
			t.Errorf("P1.5: Exp(%d) = %d, want %d", c[0], got, c[1])
		}
	}
}

func TestExpEverywhere(t *testing.T) {
	last := int64(0)
	for z := int64(-1048600); z <= 20; z++ {
		got := fix.Exp(z)
		if want := trueExp(z); got != want {
			t.Fatalf("P1.5: Exp(%d) = %d, want %d", z, got, want)
		}
		if got < last || got > api.One {
			t.Fatalf("P1.5: Exp(%d) = %d behind %d", z, got, last)
		}
		curve := api.One * math.Exp(float64(min(z, 0))/api.One)
		if math.Abs(float64(got)-curve) > 3 {
			t.Fatalf("P1.5: Exp(%d) = %d, but the curve is at %f", z, got, curve)
		}
		last = got
	}
	for _, z := range spread() {
		if got, want := fix.Exp(z), trueExp(z); got != want {
			t.Fatalf("P1.5: Exp(%d) = %d, want %d", z, got, want)
		}
	}
}

func TestExpBecomesZero(t *testing.T) {
	for _, c := range [][2]int64{{firstZero + 1, 1}, {firstZero, 0}, {firstZero - 1, 0}} {
		if got := fix.Exp(c[0]); got != c[1] {
			t.Errorf("P1.5: Exp(%d) = %d, want %d", c[0], got, c[1])
		}
	}
	for z := int64(firstZero); z >= -1048600; z-- {
		if got := fix.Exp(z); got != 0 {
			t.Fatalf("P1.5: Exp(%d) = %d, want 0", z, got)
		}
	}
}

func TestSigmoidExamples(t *testing.T) {
	for _, c := range [][2]int64{
		{0, 32768}, {65536, 47910}, {-65536, 17626}, {262144, 64357}, {-262144, 1179}, {1048576, 65536},
		{1, 32768}, {-1, 32768}, {-1048576, 0}, {1048577, 65536}, {-1048577, 0},
		{greatest, 65536}, {-greatest, 0}, {least, 0},
	} {
		if got := fix.Sigmoid(c[0]); got != c[1] {
			t.Errorf("P1.6: Sigmoid(%d) = %d, want %d", c[0], got, c[1])
		}
	}
}

func TestSigmoidEverywhere(t *testing.T) {
	last := int64(0)
	for z := int64(-1048600); z <= 1048600; z++ {
		got := fix.Sigmoid(z)
		if got < last || got > api.One {
			t.Fatalf("P1.6: Sigmoid(%d) = %d behind %d", z, got, last)
		}
		if back := fix.Sigmoid(-z); got+back != api.One {
			t.Fatalf("P1.6: Sigmoid of %d and of its opposite are %d and %d", z, got, back)
		}
		last = got
	}
	zs := spread()
	for z := int64(-1048600); z <= 1048600; z += 7 {
		zs = append(zs, z)
	}
	for _, z := range zs {
		if got, want := fix.Sigmoid(z), trueSigmoid(z); got != want {
			t.Fatalf("P1.6: Sigmoid(%d) = %d, want %d", z, got, want)
		}
	}
}

func TestSiluExamples(t *testing.T) {
	for _, c := range [][2]int64{
		{0, 0}, {256, 187}, {-256, -69}, {512, 451}, {-512, -61}, {2560, 2560}, {1 << 40, 16777216}, {-1 << 40, 0},
		{1, 1}, {-1, 0}, {api.Wide, api.Wide}, {api.Wide + 1, api.Wide}, {api.Wide - 1, api.Wide - 1}, {-api.Wide, 0}, {-api.Wide - 1, 0},
		{greatest, api.Wide}, {-greatest, 0}, {least, 0},
	} {
		if got := fix.Silu(c[0]); got != c[1] {
			t.Errorf("P1.7: Silu(%d) = %d, want %d", c[0], got, c[1])
		}
	}
}

func TestSiluEverywhere(t *testing.T) {
	vs := spread()
	for v := int64(-8192); v <= 8192; v++ {
		vs = append(vs, v)
	}
	for v := int64(-api.Wide - 9999); v <= api.Wide+9999; v += 997 {
		vs = append(vs, v)
	}
	for _, v := range vs {
		got := fix.Silu(v)
		if want := trueSilu(v); got != want {
			t.Fatalf("P1.7: Silu(%d) = %d, want %d", v, got, want)
		}
		if v > 0 && (got < 0 || got > v) || v < 0 && (got < -71 || got > 0) {
			t.Fatalf("P1.7: Silu(%d) = %d is out of its bounds", v, got)
		}
		if v == least {
			continue
		}
		if back := fix.Silu(-v); got-back != fix.Clamp(v, api.Wide) {
			t.Fatalf("P1.7: Silu of %d and of its opposite are %d and %d", v, got, back)
		}
	}
}
