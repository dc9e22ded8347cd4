// Package fix: scalars with a fixed point: see doc/01-fix.md.
package fix

import (
	"math"

	"augur/api"
)

const (
	mostShift  = 62
	mostNarrow = 127
	leastExp   = -16 * api.One
	ln2        = 45426 // the logarithm of 2, 16 bits behind the point
	expExtra   = 14    // the polynomial has so many bits more behind the point than Exp
	rootBits   = 32    // no root of an int64 has more
)

// expTerms is C4 to C0, the highest power first: that is the order in which Horner's rule takes them.
var expTerms = [5]int64{35472643, -175978408, 536691957, -1073764153, 1073741824}

// Shift: v over 2 to the s, to the nearest; halves go up.
func Shift(v int64, s int) int64 {
	if s <= 0 {
		return v
	}
	if s > mostShift {
		s = mostShift
	}
	// The highest bit that falls away tells whether to go up: adding the half ahead of the shift could wrap.
	up := (v >> (s - 1)) & 1
	return v>>s + up
}

// Clamp: v, but not below -most and not above most.
func Clamp(v, most int64) int64 {
	if most < 0 {
		most = 0
	}
	if v > most {
		return most
	}
	if v < -most {
		return -most
	}
	return v
}

// Clamp8: v as a number of 8 bits, from -127 to 127.
func Clamp8(v int64) int8 {
	return int8(Clamp(v, mostNarrow))
}

// Sqrt: the whole part of the square root.
func Sqrt(v int64) int64 {
	if v <= 0 {
		return 0
	}
	// Without a sign, as the square of a number of 32 bits may be above the greatest int64.
	root := uint64(0)
	for i := range rootBits {
		next := root | 1<<(rootBits-1-i)
		if next*next <= uint64(v) {
			root = next
		}
	}
	return int64(root)
}

// Div: the whole number below a over b.
func Div(a, b int64) int64 {
	if b <= 0 {
		return 0
	}
	q := a / b
	if a%b < 0 { // Go's division goes towards 0
		q--
	}
	return q
}

// Exp: e to the z, for z up to 0, 16 bits behind the point.
func Exp(z int64) int64 {
	if z > 0 {
		z = 0
	}
	if z < leastExp {
		return 0
	}
	q, r := -z/ln2, -z%ln2
	p := int64(0)
	for _, c := range expTerms {
		p = c + Shift(p*r, 16)
	}
	return Shift(Shift(p, expExtra), int(q))
}

// Sigmoid: 1 over 1 + e to the -z, 16 bits behind the point.
func Sigmoid(z int64) int64 {
	if z >= 0 {
		return upperSigmoid(z)
	}
	if z == math.MinInt64 { // it has no opposite
		z++
	}
	return api.One - upperSigmoid(-z)
}

// upperSigmoid: Sigmoid for z of 0 or more.
func upperSigmoid(z int64) int64 {
	return Div(api.One*api.One, api.One+Exp(-z))
}

// Silu: v times the sigmoid of v, 8 bits behind the point.
func Silu(v int64) int64 {
	w := Clamp(v, api.Wide)
	return Shift(w*Sigmoid(w*256), 16)
}
