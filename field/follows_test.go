package field_test

import (
	"testing"

	"pharos/api"
	"pharos/field"
)

// P9.3: a root's square is the number, and the root is even; where there is none, nothing is told.
func TestRootSquared(t *testing.T) {
	roots := 0
	for _, a := range numbers(20000) {
		root, ok := field.Root(a)
		switch {
		case !ok:
			same(t, "no root", root, 0, a)
		default:
			roots++
			same(t, "Mul of the root", field.Mul(root, root), a%prime, a)
			same(t, "Pow of the root", field.Pow(root, 2), a%prime, a)
			same(t, "the root's lowest bit", root%2, 0, a)
			same(t, "the root", root, root%prime, a)
		}
	}
	if roots < 9000 || roots > 11500 {
		t.Errorf("%d of some 20000 numbers have roots", roots)
	}
}

// P9.3: a number other than 0 has a root, or its negative has one, not both.
func TestRootOfOne(t *testing.T) {
	for _, a := range numbers(5000) {
		_, ok := field.Root(a)
		_, negative := field.Root(field.Sub(0, a))
		if (ok == negative) != (a%prime == 0) {
			t.Fatalf("%d: %v, its negative: %v", a, ok, negative)
		}
	}
}

// P9.3: products do not hang on the order, and part over sums and differences.
func TestLaws(t *testing.T) {
	l := numbers(30)
	for _, a := range l {
		for _, b := range l {
			same(t, "Mul", field.Mul(a, b), field.Mul(b, a), a, b)
			same(t, "Add", field.Add(a, b), field.Add(b, a), a, b)
			same(t, "Sub and Add", field.Add(field.Sub(a, b), b), a%prime, a, b)
			for _, c := range l {
				same(t, "of three", field.Mul(field.Mul(a, b), c), field.Mul(a, field.Mul(b, c)), a, b, c)
				same(t, "over a sum", field.Mul(a, field.Add(b, c)), field.Add(field.Mul(a, b), field.Mul(a, c)), a, b, c)
				same(t, "over a difference", field.Mul(a, field.Sub(b, c)), field.Sub(field.Mul(a, b), field.Mul(a, c)), a, b, c)
			}
		}
	}
}

// P9.3: the same of the extension.
func TestLaws2(t *testing.T) {
	l := fewPairs2()
	for _, a := range l {
		for _, b := range l {
			same2(t, "Mul2", field.Mul2(a, b), field.Mul2(b, a), a, b)
			same2(t, "with a negative", field.Mul2(a, negative2(b)), negative2(field.Mul2(a, b)), a, b)
			for _, c := range l {
				same2(t, "of three", field.Mul2(field.Mul2(a, b), c), field.Mul2(a, field.Mul2(b, c)), a, b, c)
				same2(t, "over a sum", field.Mul2(a, sum2(b, c)), sum2(field.Mul2(a, b), field.Mul2(a, c)), a, b, c)
			}
		}
	}
}

// P9.3: so powers add up, and are taken of products one by one.
func TestLawsOfPowers(t *testing.T) {
	m := mixer(4)
	for range 3000 {
		a, b, j, k := m.pair2(), m.pair2(), m.next()>>1, m.next()>>1
		same2(t, "the powers j and k", field.Mul2(field.Pow2(a, j), field.Pow2(a, k)), field.Pow2(a, j+k), a)
		same2(t, "of a product", field.Pow2(field.Mul2(a, b), j), field.Mul2(field.Pow2(a, j), field.Pow2(b, j)), a, b)
		same2(t, "of an inverse", field.Pow2(field.Inv2(a), j), field.Inv2(field.Pow2(a, j)), a)
		same(t, "the powers j and k", field.Mul(field.Pow(a.A, j), field.Pow(a.A, k)), field.Pow(a.A, j+k), a.A, j, k)
		same(t, "of a product", field.Pow(field.Mul(a.A, b.A), j), field.Mul(field.Pow(a.A, j), field.Pow(b.A, j)), a.A, b.A)
		same(t, "of an inverse", field.Pow(field.Inv(a.A), j), field.Inv(field.Pow(a.A, j)), a.A, j)
	}
}

// The chapter's words: all that is told is below the prime.
func TestBelowPrime(t *testing.T) {
	l := numbers(60)
	for _, a := range l {
		root, _ := field.Root(a)
		for _, b := range l {
			x := api.Pair2{A: a, B: b}
			product, power, inverse := field.Mul2(x, x), field.Pow2(x, a), field.Inv2(x)
			for _, n := range []uint64{
				field.Add(a, b), field.Sub(a, b), field.Mul(a, b), field.Pow(a, b), field.Inv(a), root,
				product.A, product.B, power.A, power.B, inverse.A, inverse.B,
			} {
				if n >= prime {
					t.Fatalf("of %d and %d %d is told", a, b, n)
				}
			}
		}
	}
}
