package field

import "pharos/api"

// Mul2 is a times b, in the extension.
func Mul2(a, b api.Pair2) api.Pair2 {
	return api.Pair2{
		A: Sub(Mul(a.A, b.A), Mul(a.B, b.B)),
		B: Add(Mul(a.A, b.B), Mul(a.B, b.A)),
	}
}

// Pow2 is a to the n, in the extension; 0 to the 0 is 1.
func Pow2(a api.Pair2, n uint64) api.Pair2 {
	power := api.Pair2{A: 1}
raising:
	for set := range digits(n) {
		power = Mul2(power, power)
		switch {
		case power == (api.Pair2{}):
			break raising // no product leads away from 0
		case set:
			power = Mul2(power, a)
		}
	}
	return power
}

// Inv2 is what times a is 1, or 0 if a is 0.
func Inv2(a api.Pair2) api.Pair2 {
	// A + B i times A - B i has no i: it is this number, which is 0 only if a is, for no number's square is -1.
	norm := Add(Mul(a.A, a.A), Mul(a.B, a.B))
	return Mul2(api.Pair2{A: a.A, B: Sub(0, a.B)}, api.Pair2{A: Inv(norm)})
}
