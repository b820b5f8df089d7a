package field_test

import (
	"testing"

	"pharos/field"
)

// The chapter's words: the prime is one, and 3 modulo 4; the promises of inverses and roots stand on it.
func TestPrime(t *testing.T) {
	if !toBig(prime).ProbablyPrime(64) || prime%4 != 3 {
		t.Errorf("%d is no prime, or not 3 modulo 4", prime)
	}
}

// P9.1: sums, differences, products, written out.
func TestWrittenOut(t *testing.T) {
	cases := []struct {
		name      string
		got, want uint64
	}{
		{"0 + 0", field.Add(0, 0), 0},
		{"1 + 2", field.Add(1, 2), 3},
		{"P-1 + 1", field.Add(prime-1, 1), 0},
		{"P-1 + P-1", field.Add(prime-1, prime-1), 2147482865},
		{"P + 7", field.Add(prime, 7), 7},
		{"2P + P+1", field.Add(2*prime, prime+1), 1},
		{"greatest + 0", field.Add(greatest, 0), 2439843},
		{"greatest + greatest", field.Add(greatest, greatest), 4879686},
		{"0 - 1", field.Sub(0, 1), 2147482866},
		{"0 - 0", field.Sub(0, 0), 0},
		{"0 - P", field.Sub(0, prime), 0},
		{"P - 0", field.Sub(prime, 0), 0},
		{"5 - 3", field.Sub(5, 3), 2},
		{"3 - 5", field.Sub(3, 5), 2147482865},
		{"P - P+1", field.Sub(prime, prime+1), 2147482866},
		{"0 - greatest", field.Sub(0, greatest), 2145043024},
		{"greatest - greatest", field.Sub(greatest, greatest), 0},
		{"0 times P-1", field.Mul(0, prime-1), 0},
		{"P times P-1", field.Mul(prime, prime-1), 0},
		{"6 times 7", field.Mul(6, 7), 42},
		{"P-1 times P-1", field.Mul(prime-1, prime-1), 1},
		{"P-1 times 2", field.Mul(prime-1, 2), 2147482865},
		{"65536 times 65536", field.Mul(65536, 65536), 1562},
		{"greatest times 1", field.Mul(greatest, 1), 2439843},
		{"greatest times P+2", field.Mul(greatest, prime+2), 4879686},
	}
	for _, c := range cases {
		if c.got != c.want {
			t.Errorf("%s is %d, not %d", c.name, c.got, c.want)
		}
	}
}

// P9.1: powers and inverses, written out.
func TestPowersWrittenOut(t *testing.T) {
	cases := []struct{ a, n, want uint64 }{
		{0, 0, 1}, {0, 1, 0}, {0, 2, 0}, {0, prime - 2, 0}, {0, prime - 1, 0}, {0, prime, 0}, {0, greatest, 0},
		{prime, 0, 1}, {prime, 1, 0}, {2 * prime, greatest, 0},
		{1, 0, 1}, {1, 1, 1}, {1, greatest, 1}, {prime + 1, greatest, 1},
		{2, 0, 1}, {2, 1, 2}, {2, 2, 4}, {2, 30, 1 << 30}, {2, 31, 781}, {2, 32, 1562}, {2, 62, 609961},
		{3, 20, 1339301534}, {10, 9, 1000000000},
		{prime - 1, 0, 1}, {prime - 1, 1, prime - 1}, {prime - 1, 2, 1}, {prime - 1, greatest, prime - 1}, {prime - 1, greatest - 1, 1},
		{7, prime - 1, 1}, {7, prime, 7}, {7, prime + 1, 49}, {greatest, 0, 1}, {greatest, 1, 2439843}, {greatest, prime, 2439843},
	}
	for _, c := range cases {
		same(t, "Pow", field.Pow(c.a, c.n), c.want, c.a, c.n)
	}
	for a, want := range map[uint64]uint64{
		0: 0, prime: 0, 2 * prime: 0,
		1: 1, prime + 1: 1, prime - 1: prime - 1,
		2: 1073741434, 3: 1431655245, prime - 2: 1073741433, 1073741434: 2,
	} {
		same(t, "Inv", field.Inv(a), want, a)
	}
}

// P9.1: sums, differences, products of numbers at the edges, each with each, and of others.
func TestReckoning(t *testing.T) {
	l := numbers(300)
	for _, a := range l {
		for _, b := range l {
			same(t, "Add", field.Add(a, b), plainAdd(a, b), a, b)
			same(t, "Sub", field.Sub(a, b), plainSub(a, b), a, b)
			same(t, "Mul", field.Mul(a, b), plainMul(a, b), a, b)
		}
	}
}

// P9.1: powers at the edges, and others.
func TestPowers(t *testing.T) {
	m := mixer(1)
	for _, a := range numbers(200) {
		for _, n := range append(powers(), m.next(), m.number(), m.number()) {
			same(t, "Pow", field.Pow(a, n), plainPow(a, n), a, n)
		}
		for bit := range 64 {
			for _, n := range []uint64{1 << bit, 1<<bit - 1, greatest << bit} {
				same(t, "Pow", field.Pow(a, n), plainPow(a, n), a, n)
			}
		}
	}
}

// P9.1: small powers are products.
func TestPowersAreProducts(t *testing.T) {
	for _, a := range numbers(20) {
		want := uint64(1)
		for n := range uint64(200) {
			same(t, "Pow", field.Pow(a, n), want, a, n)
			want = plainMul(want, a)
		}
	}
}

// P9.1: an inverse times its number is 1, but of 0.
func TestInverses(t *testing.T) {
	for _, a := range numbers(3000) {
		inverse := field.Inv(a)
		same(t, "Inv", inverse, plainInv(a), a)
		same(t, "Inv", inverse, plainPow(a, prime-2), a)
		want := uint64(1)
		if a%prime == 0 {
			want = 0
		}
		same(t, "Inv times", plainMul(inverse, a), want, a)
		same(t, "Inv of Inv", field.Inv(inverse), a%prime, a)
	}
}

// P9.1: roots, written out.
func TestRootsWrittenOut(t *testing.T) {
	for a, want := range map[uint64]uint64{
		0: 0, prime: 0, 2 * prime: 0,
		1: prime - 1, prime + 1: prime - 1, 2*prime + 1: prime - 1,
		4: 2, prime + 4: 2, 9: prime - 3, 16: 4, 25: prime - 5, 10000: 100,
		prime*prime + 4: 2,
	} {
		expectRoot(t, a, want, true)
	}
	for _, a := range []uint64{2, 3, 8, prime - 1, 2*prime - 1, prime - 4, prime - 9, prime + 2, prime*prime - 1, prime*prime - 4} {
		expectRoot(t, a, 0, false)
	}
}

// P9.1: the root of a square is the even one of two; a square's negative, but 0, has none.
func TestRootsOfSquares(t *testing.T) {
	for _, a := range numbers(3000) {
		square := plainMul(a, a)
		negative := plainSub(0, square)
		for _, n := range alike(square) {
			expectRoot(t, n, evenOf(a), true)
		}
		for _, n := range alike(negative) {
			expectRoot(t, n, 0, negative == 0)
		}
	}
}

// P9.1: which numbers have roots, of many that stand beside each other: the first ones, those about the prime, the last ones.
func TestWhichHaveRoots(t *testing.T) {
	const many = 4000
	for _, from := range []uint64{0, prime / 2, prime - many/2, 2*prime - many/2, greatest - many} {
		for a := from; a < from+many; a++ {
			if _, ok := field.Root(a); ok != plainSquare(a) {
				t.Fatalf("Root(%d): %v", a, ok)
			}
		}
	}
	for _, a := range numbers(2000) {
		if _, ok := field.Root(a); ok != plainSquare(a) {
			t.Fatalf("Root(%d): %v", a, ok)
		}
	}
}

// The chapter's words: numbers that are alike, modulo the prime, have the same answers.
func TestTakenModulo(t *testing.T) {
	for _, a := range numbers(20) {
		root, ok := field.Root(a)
		for _, first := range alike(a) {
			same(t, "Inv", field.Inv(first), field.Inv(a), first)
			expectRoot(t, first, root, ok)
			same(t, "Pow", field.Pow(first, greatest), field.Pow(a, greatest), first)
			for _, b := range numbers(20) {
				for _, second := range alike(b) {
					same(t, "Add", field.Add(first, second), field.Add(a, b), first, second)
					same(t, "Sub", field.Sub(first, second), field.Sub(a, b), first, second)
					same(t, "Mul", field.Mul(first, second), field.Mul(a, b), first, second)
				}
			}
		}
	}
}
