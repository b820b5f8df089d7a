package field_test

import (
	"testing"

	"pharos/api"
	"pharos/field"
)

// pair is a + b i.
func pair(a, b uint64) api.Pair2 { return api.Pair2{A: a, B: b} }

// half is the inverse of 2.
const half = 1073741434

// P9.2: products, written out.
func TestProductsWrittenOut2(t *testing.T) {
	for _, c := range []struct{ a, b, want api.Pair2 }{
		{none2, none2, none2},
		{i2, i2, pair(prime-1, 0)},
		{i2, one2, i2},
		{i2, none2, none2},
		{i2, pair(prime, prime), none2},
		{pair(3, 5), pair(7, 11), pair(prime-34, 68)},
		{pair(2, 0), pair(3, 0), pair(6, 0)},
		{pair(0, 2), pair(0, 3), pair(prime-6, 0)},
		{pair(2, 0), pair(0, 3), pair(0, 6)},
		{pair(prime-1, prime-1), pair(prime-1, prime-1), pair(0, 2)},
		{pair(prime+1, prime+2), pair(2*prime+3, 0), pair(3, 6)},
		{pair(greatest, 0), pair(0, 2), pair(0, 4879686)},
		{pair(0, greatest), pair(prime, 1), pair(prime-2439843, 0)},
	} {
		same2(t, "Mul2", field.Mul2(c.a, c.b), c.want, c.a, c.b)
	}
}

// P9.2: powers, written out.
func TestPowersWrittenOut2(t *testing.T) {
	for _, c := range []struct {
		a    api.Pair2
		n    uint64
		want api.Pair2
	}{
		{none2, 0, one2}, {none2, 1, none2}, {none2, 2, none2}, {none2, prime - 1, none2}, {none2, greatest, none2},
		{pair(prime, 2*prime), 0, one2}, {pair(prime, prime), 2, none2},
		{one2, 0, one2}, {one2, greatest, one2}, {pair(prime+1, prime), 1, one2},
		{i2, 0, one2}, {i2, 1, i2}, {i2, 2, pair(prime-1, 0)}, {i2, 3, pair(0, prime-1)}, {i2, 4, one2}, {i2, greatest, pair(0, prime-1)},
		{pair(1, 1), 2, pair(0, 2)}, {pair(1, 1), 4, pair(prime-4, 0)}, {pair(1, 1), 8, pair(16, 0)},
		{pair(2, 1), 3, pair(2, 11)}, {pair(0, 2), 31, pair(0, prime-781)},
		{pair(2, 3), prime, pair(2, prime-3)}, {pair(2, 3), prime + 1, pair(13, 0)},
		{pair(greatest, prime+1), 1, pair(2439843, 1)}, {pair(greatest, greatest), 0, one2},
	} {
		if got := field.Pow2(c.a, c.n); got != c.want {
			t.Errorf("Pow2(%d, %d): %d, not %d", c.a, c.n, got, c.want)
		}
	}
}

// P9.2: inverses, written out.
func TestInversesWrittenOut2(t *testing.T) {
	for _, c := range []struct{ a, want api.Pair2 }{
		{none2, none2}, {pair(prime, 0), none2}, {pair(0, prime), none2}, {pair(prime, 2*prime), none2},
		{one2, one2}, {pair(prime+1, prime), one2},
		{pair(prime-1, 0), pair(prime-1, 0)},
		{pair(2, 0), pair(half, 0)},
		{i2, pair(0, prime-1)},
		{pair(0, 2), pair(0, prime-half)},
		{pair(1, 1), pair(half, prime-half)},
		{pair(1, prime-1), pair(half, half)},
	} {
		same2(t, "Inv2", field.Inv2(c.a), c.want, c.a)
	}
}

// P9.2: products of numbers at the edges, each with each, and of others.
func TestProducts2(t *testing.T) {
	few := fewPairs2()
	for _, a := range few {
		for _, b := range few {
			same2(t, "Mul2", field.Mul2(a, b), plainMul2(a, b), a, b)
		}
	}
	m := mixer(2)
	for _, a := range pairs2(3000) {
		b := m.pair2()
		same2(t, "Mul2", field.Mul2(a, b), plainMul2(a, b), a, b)
		same2(t, "Mul2", field.Mul2(b, a), plainMul2(b, a), b, a)
		same2(t, "Mul2", field.Mul2(a, a), plainMul2(a, a), a, a)
	}
}

// P9.2: powers at the edges, and others.
func TestPowers2(t *testing.T) {
	m := mixer(3)
	for _, a := range fewPairs2() {
		for _, n := range append(powers(), m.next(), m.number()) {
			if got, want := field.Pow2(a, n), plainPow2(a, n); got != want {
				t.Fatalf("Pow2(%d, %d): %d, not %d", a, n, got, want)
			}
		}
	}
}

// P9.2: small powers are products.
func TestPowersAreProducts2(t *testing.T) {
	for _, a := range fewPairs2() {
		want := one2
		for n := range uint64(70) {
			if got := field.Pow2(a, n); got != want {
				t.Fatalf("Pow2(%d, %d): %d, not %d", a, n, got, want)
			}
			want = plainMul2(want, a)
		}
	}
}

// P9.2: to the P a number is itself with -i for i; to the P P - 1 it is 1, but 0.
func TestPowersOfPrime2(t *testing.T) {
	for _, a := range pairs2(500) {
		turned := api.Pair2{A: a.A % prime, B: plainSub(0, a.B)}
		same2(t, "to the P", field.Pow2(a, prime), turned, a)
		same2(t, "to the P P", field.Pow2(a, prime*prime), rest2(a), a)
		whole := one2
		if rest2(a) == none2 {
			whole = none2
		}
		same2(t, "to the P P - 1", field.Pow2(a, prime*prime-1), whole, a)
	}
}

// P9.2: the powers of i go round in four.
func TestPowersOfRoot(t *testing.T) {
	round := []api.Pair2{one2, i2, {A: prime - 1}, {B: prime - 1}}
	for _, n := range append(powers(), 6, 9, 10, 11, 12, 13) {
		same2(t, "i", field.Pow2(i2, n), round[n%4])
		same2(t, "-i", field.Pow2(api.Pair2{A: prime, B: 2*prime - 1}, n), round[(4-n%4)%4])
	}
}

// P9.2: an inverse times its number is 1, but of 0; it is A - B i times the inverse of A A + B B.
func TestInverses2(t *testing.T) {
	for _, a := range pairs2(3000) {
		inverse := field.Inv2(a)
		norm := plainInv(plainAdd(plainMul(a.A, a.A), plainMul(a.B, a.B)))
		want := api.Pair2{A: plainMul(a.A, norm), B: plainSub(0, plainMul(a.B, norm))}
		same2(t, "Inv2", inverse, want, a)
		whole := one2
		if rest2(a) == none2 {
			whole = none2
		}
		same2(t, "Inv2 times", plainMul2(inverse, a), whole, a)
		same2(t, "Inv2 of Inv2", field.Inv2(inverse), rest2(a), a)
	}
}

// P9.2: of numbers without i the extension's answers are the field's.
func TestWithoutRoot(t *testing.T) {
	for _, a := range numbers(30) {
		for _, none := range []uint64{0, prime, 2 * prime} {
			first := api.Pair2{A: a, B: none}
			same2(t, "Inv2", field.Inv2(first), api.Pair2{A: plainInv(a)}, first)
			for _, b := range numbers(30) {
				second := api.Pair2{A: b, B: none}
				same2(t, "Mul2", field.Mul2(first, second), api.Pair2{A: plainMul(a, b)}, first, second)
				same2(t, "Pow2", field.Pow2(first, b), api.Pair2{A: plainPow(a, b)}, first, second)
			}
		}
	}
}

// The chapter's words: numbers of the extension that are alike, modulo the prime, have the same answers.
func TestTakenModulo2(t *testing.T) {
	few := fewPairs2()
	for _, a := range few {
		for _, first := range alike2(a) {
			same2(t, "Inv2", field.Inv2(first), field.Inv2(rest2(a)), first)
			same2(t, "Pow2", field.Pow2(first, prime-2), field.Pow2(rest2(a), prime-2), first)
			for _, b := range few {
				same2(t, "Mul2", field.Mul2(first, b), field.Mul2(rest2(a), rest2(b)), first, b)
				same2(t, "Mul2", field.Mul2(b, first), field.Mul2(rest2(b), rest2(a)), b, first)
			}
		}
	}
}
