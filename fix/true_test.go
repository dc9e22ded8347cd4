package fix_test

import "math/big"

// The document's rules, said over whole numbers without bounds: nothing here can wrap.

func big64(v int64) *big.Int { return big.NewInt(v) }

// below: the whole number below a over b, for b above 0 (big's Div is that for such b).
func below(a, b *big.Int) *big.Int { return new(big.Int).Div(a, b) }

func square(v int64) *big.Int { return new(big.Int).Mul(big64(v), big64(v)) }

func trueShift(v *big.Int, s int) *big.Int {
	if s <= 0 {
		return v
	}
	s = min(s, 62)
	half := new(big.Int).Lsh(big64(1), uint(s-1))
	whole := new(big.Int).Lsh(big64(1), uint(s))
	return below(half.Add(half, v), whole)
}

// offBy: how far shifted times 2 to the s lies from v.
func offBy(v, shifted int64, s int) *big.Int {
	back := new(big.Int).Lsh(big64(shifted), uint(s))
	return back.Sub(back, big64(v))
}

func trueExp(z int64) int64 {
	z = min(z, 0)
	if z < -1048576 {
		return 0
	}
	q := below(big64(-z), big64(45426))
	r := new(big.Int).Sub(big64(-z), new(big.Int).Mul(q, big64(45426)))
	p := big64(35472643)
	for _, c := range []int64{-175978408, 536691957, -1073764153, 1073741824} {
		p = new(big.Int).Add(big64(c), trueShift(p.Mul(p, r), 16))
	}
	return trueShift(trueShift(p, 14), int(q.Int64())).Int64()
}

func trueSigmoid(z int64) int64 {
	back := new(big.Int).Abs(big64(z))
	if !back.IsInt64() {
		back.Sub(back, big64(1))
	}
	s := below(big64(65536*65536), big64(65536+trueExp(-back.Int64()))).Int64()
	if z < 0 {
		return 65536 - s
	}
	return s
}

func trueSilu(v int64) int64 {
	w := min(max(v, -1<<24), 1<<24)
	return trueShift(new(big.Int).Mul(big64(w), big64(trueSigmoid(w*256))), 16).Int64()
}
