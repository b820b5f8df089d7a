package field_test

import (
	"math/big"
	"slices"
	"testing"

	"pharos/api"
	"pharos/field"
)

// The tests hold the numbers against those of math/big, which reckon without a bound, and are taken modulo the prime at the end.

const (
	prime    = uint64(api.Prime)
	greatest = uint64(1<<64 - 1)
)

var (
	none2 = api.Pair2{}
	one2  = api.Pair2{A: 1}
	i2    = api.Pair2{B: 1}
)

func toBig(n uint64) *big.Int { return new(big.Int).SetUint64(n) }

// rest is n modulo the prime, below 0 too.
func rest(n *big.Int) uint64 { return new(big.Int).Mod(n, toBig(prime)).Uint64() }

func plainAdd(a, b uint64) uint64 { return rest(new(big.Int).Add(toBig(a), toBig(b))) }

func plainSub(a, b uint64) uint64 { return rest(new(big.Int).Sub(toBig(a), toBig(b))) }

func plainMul(a, b uint64) uint64 { return rest(new(big.Int).Mul(toBig(a), toBig(b))) }

func plainPow(a, n uint64) uint64 {
	return new(big.Int).Exp(toBig(a), toBig(n), toBig(prime)).Uint64()
}

// plainInv is by Euclid's steps, not by a power.
func plainInv(a uint64) uint64 {
	inverse := new(big.Int).ModInverse(toBig(a), toBig(prime))
	if inverse == nil {
		return 0
	}
	return inverse.Uint64()
}

// plainSquare tells whether a is a number's square, by Jacobi's steps, not by a power.
func plainSquare(a uint64) bool { return big.Jacobi(toBig(a%prime), toBig(prime)) >= 0 }

// evenOf is the even one of a and its negative.
func evenOf(a uint64) uint64 {
	a %= prime
	if a%2 == 1 {
		return prime - a
	}
	return a
}

func plainMul2(a, b api.Pair2) api.Pair2 {
	product := func(a, b uint64) *big.Int { return new(big.Int).Mul(toBig(a), toBig(b)) }
	return api.Pair2{
		A: rest(new(big.Int).Sub(product(a.A, b.A), product(a.B, b.B))),
		B: rest(new(big.Int).Add(product(a.A, b.B), product(a.B, b.A))),
	}
}

// plainPow2 goes from the lowest bit on.
func plainPow2(a api.Pair2, n uint64) api.Pair2 {
	power := one2
	for ; n > 0; n /= 2 {
		if n%2 == 1 {
			power = plainMul2(power, a)
		}
		a = plainMul2(a, a)
	}
	return power
}

// rest2 is a with both its numbers below the prime.
func rest2(a api.Pair2) api.Pair2 { return api.Pair2{A: a.A % prime, B: a.B % prime} }

// negative2 is -a.
func negative2(a api.Pair2) api.Pair2 {
	return api.Pair2{A: plainSub(0, a.A), B: plainSub(0, a.B)}
}

// sum2 is a + b.
func sum2(a, b api.Pair2) api.Pair2 {
	return api.Pair2{A: plainAdd(a.A, b.A), B: plainAdd(a.B, b.B)}
}

// edges are numbers near the prime, its multiples, and where bits end.
func edges() []uint64 {
	last := greatest - greatest%prime // the greatest multiple of the prime
	return []uint64{
		0, 1, 2, 3, 4, 5,
		prime / 2, prime/2 + 1, prime - 3, prime - 2, prime - 1,
		prime, prime + 1, prime + 2, 2*prime - 1, 2 * prime, 2*prime + 1,
		1<<31 - 1, 1 << 31, 1<<32 - 1, 1 << 32, 1<<32 + 1,
		(prime-1)*(prime-1) - 1, prime*prime - 1, prime * prime, prime*prime + 1,
		1<<63 - 1, 1 << 63, last - 1, last, last + 1, greatest - 1, greatest,
	}
}

// powers are those that are tried.
func powers() []uint64 {
	return []uint64{
		0, 1, 2, 3, 4, 5, 7, 8, 31, 64,
		(prime + 1) / 4, (prime - 1) / 2, prime - 2, prime - 1, prime, prime + 1, 2 * (prime - 1), 2 * prime,
		1<<32 - 1, 1 << 32, 4 * (prime - 1), prime*prime - 1, prime * prime,
		1<<63 - 1, 1 << 63, 1<<63 + 1, 0xaaaaaaaaaaaaaaaa, 0x5555555555555555, greatest - 1, greatest,
	}
}

// mixer makes the same numbers in each run.
type mixer uint64

func (m *mixer) next() uint64 {
	*m += 0x9e3779b97f4a7c15
	z := uint64(*m)
	z = (z ^ z>>30) * 0xbf58476d1ce4e5b9
	z = (z ^ z>>27) * 0x94d049bb133111eb
	return z ^ z>>31
}

// number makes those of all lengths, half of them below the prime.
func (m *mixer) number() uint64 {
	n := m.next() >> (m.next() % 64)
	if m.next()%2 == 0 {
		return n % prime
	}
	return n
}

func (m *mixer) pair2() api.Pair2 { return api.Pair2{A: m.number(), B: m.number()} }

// numbers are the edges, and as many others.
func numbers(others int) []uint64 {
	l, m := edges(), mixer(9)
	for range others {
		l = append(l, m.number())
	}
	return l
}

// pairs2 are numbers of the extension: all of two edges, and as many others.
func pairs2(others int) []api.Pair2 {
	var l []api.Pair2
	for _, a := range edges() {
		for _, b := range edges() {
			l = append(l, api.Pair2{A: a, B: b})
		}
	}
	m := mixer(10)
	for range others {
		l = append(l, m.pair2())
	}
	return l
}

// fewPairs2 are numbers of the extension that all go with each other: of the named edges, and some others.
func fewPairs2() []api.Pair2 {
	few := []uint64{0, 1, 2, prime - 1, prime, prime + 1, 2 * prime, greatest}
	var l []api.Pair2
	for _, a := range few {
		for _, b := range few {
			l = append(l, api.Pair2{A: a, B: b})
		}
	}
	m := mixer(11)
	for range 40 {
		l = append(l, m.pair2())
	}
	return l
}

// alike are numbers that are a, modulo the prime.
func alike(a uint64) []uint64 {
	l := []uint64{a % prime, a, a%prime + prime, a%prime + 5*prime}
	if a <= greatest-prime {
		l = append(l, a+prime)
	}
	return slices.Compact(l)
}

// alike2 are numbers of the extension that are a.
func alike2(a api.Pair2) []api.Pair2 {
	var l []api.Pair2
	for _, first := range alike(a.A) {
		for _, second := range alike(a.B) {
			l = append(l, api.Pair2{A: first, B: second})
		}
	}
	return l
}

// same fails the test, with the call's name and what it was given, unless got is want.
func same(t *testing.T, name string, got, want uint64, given ...uint64) {
	t.Helper()
	if got != want {
		t.Fatalf("%s of %d: %d, not %d", name, given, got, want)
	}
}

// same2 is same, of the extension.
func same2(t *testing.T, name string, got, want api.Pair2, given ...api.Pair2) {
	t.Helper()
	if got != want {
		t.Fatalf("%s of %d: %d, not %d", name, given, got, want)
	}
}

// expectRoot asks for the root of a: ok tells whether there is one.
func expectRoot(t *testing.T, a, want uint64, ok bool) {
	t.Helper()
	if got, there := field.Root(a); got != want || there != ok {
		t.Fatalf("Root(%d): %d, %v, not %d, %v", a, got, there, want, ok)
	}
}
