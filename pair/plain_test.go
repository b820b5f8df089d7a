package pair_test

import (
	"math/big"
	"testing"

	"pharos/api"
	"pharos/pair"
)

// The tests hold lines against the chapter's words, reckoned by math/big, and pairings against those that are gathered from the lowest bit on, with the upright lines that the last power takes away.

const (
	prime    = uint64(api.Prime)
	order    = uint64(api.Order)
	greatest = uint64(1<<64 - 1)
)

var (
	one       = api.Pair2{A: 1}
	inf       = api.Point{Inf: true}
	generator = at(api.GenX, api.GenY)
	whole     = at(2, 1366308386)         // all points are multiples of it
	flat      = at(0, 0)                  // the one with Y 0: twice it is Inf
	quarter   = at(2147482866, 198372348) // twice it is flat
)

func at(x, y uint64) api.Point { return api.Point{X: x, Y: y} }

func toBig(n uint64) *big.Int { return new(big.Int).SetUint64(n) }

// rest is n modulo the prime, below 0 too.
func rest(n *big.Int) uint64 { return new(big.Int).Mod(n, toBig(prime)).Uint64() }

func plus(a, b uint64) uint64 { return rest(new(big.Int).Add(toBig(a), toBig(b))) }

func minus(a, b uint64) uint64 { return rest(new(big.Int).Sub(toBig(a), toBig(b))) }

// times is the product of all.
func times(l ...uint64) uint64 {
	product := big.NewInt(1)
	for _, n := range l {
		product.Mul(product, toBig(n))
	}
	return rest(product)
}

// inverse is by Euclid's steps, not by a power.
func inverse(a uint64) uint64 {
	return new(big.Int).ModInverse(toBig(a), toBig(prime)).Uint64()
}

func times2(a, b api.Pair2) api.Pair2 {
	return api.Pair2{A: minus(times(a.A, b.A), times(a.B, b.B)), B: plus(times(a.A, b.B), times(a.B, b.A))}
}

// over2 is a divided by b.
func over2(a, b api.Pair2) api.Pair2 {
	norm := inverse(plus(times(b.A, b.A), times(b.B, b.B)))
	return times2(a, api.Pair2{A: times(b.A, norm), B: times(minus(0, b.B), norm)})
}

// power2 goes from the lowest bit on.
func power2(a api.Pair2, n uint64) api.Pair2 {
	power := one
	for ; n > 0; n /= 2 {
		if n%2 == 1 {
			power = times2(power, a)
		}
		a = times2(a, a)
	}
	return power
}

// cubic is X to the 3, and X.
func cubic(x uint64) uint64 { return plus(times(x, x, x), x) }

func plainOn(p api.Point) bool {
	if p.Inf {
		return p.X == 0 && p.Y == 0
	}
	return p.X < prime && p.Y < prime && times(p.Y, p.Y) == cubic(p.X)
}

func plainNeg(p api.Point) api.Point {
	if p.Inf || p.Y == 0 {
		return p
	}
	return at(p.X, prime-p.Y)
}

// plainSlope is that of two points, or that there is none.
func plainSlope(s, t api.Point) (uint64, bool) {
	switch {
	case s.Inf || t.Inf:
		return 0, false
	case s.X != t.X:
		return times(minus(t.Y, s.Y), inverse(minus(t.X, s.X))), true
	case s.Y != t.Y || s.Y == 0:
		return 0, false
	default:
		return times(3*times(s.X, s.X)+1, inverse(2*s.Y)), true
	}
}

func plainAdd(s, t api.Point) api.Point {
	slope, there := plainSlope(s, t)
	switch {
	case s.Inf:
		return t
	case t.Inf:
		return s
	case !there:
		return inf
	}
	x := minus(minus(times(slope, slope), s.X), t.X)
	return at(x, minus(times(slope, minus(s.X, x)), s.Y))
}

func plainTimes(n uint64, p api.Point) api.Point {
	multiple := inf
	for ; n > 0; n /= 2 {
		if n%2 == 1 {
			multiple = plainAdd(multiple, p)
		}
		p = plainAdd(p, p)
	}
	return multiple
}

func plainInGroup(p api.Point) bool { return plainOn(p) && plainTimes(order, p) == inf }

func plainLine(s, t, q api.Point) api.Pair2 {
	slope, there := plainSlope(s, t)
	if !there {
		return one
	}
	return api.Pair2{A: minus(times(slope, plus(s.X, q.X)), s.Y), B: q.Y}
}

// gather is a multiple of a point, and the product of the lines that lead to it.
type gather struct {
	multiple api.Point
	product  api.Pair2
}

// with is the sum of both multiples: the line through them, over the upright one through their sum.
func (a gather) with(b gather, q api.Point) gather {
	both := gather{plainAdd(a.multiple, b.multiple), times2(a.product, b.product)}
	both.product = times2(both.product, plainLine(a.multiple, b.multiple, q))
	if !both.multiple.Inf {
		both.product = over2(both.product, api.Pair2{A: plus(both.multiple.X, q.X)})
	}
	return both
}

func plainPair(p, q api.Point) api.Pair2 {
	if p.Inf || q.Inf {
		return one
	}
	all, doubled := gather{inf, one}, gather{p, one}
	for n := order; n > 0; n /= 2 {
		if n%2 == 1 {
			all = all.with(doubled, q)
		}
		doubled = doubled.with(doubled, q)
	}
	return power2(all.product, 4*(prime-1))
}

// mixer makes the same numbers in each run.
type mixer uint64

func (m *mixer) next() uint64 {
	*m += 0x9e3779b97f4a7c15
	z := uint64(*m)
	z = (z ^ z>>30) * 0xbf58476d1ce4e5b9
	z = (z ^ z>>27) * 0x94d049bb133111eb
	return z ^ z>>31
}

// point makes one, of all points but Inf.
func (m *mixer) point() api.Point {
	for {
		x := m.next() % prime
		if root := new(big.Int).ModSqrt(toBig(cubic(x)), toBig(prime)); root != nil {
			return at(x, root.Uint64())
		}
	}
}

// member makes a point of the group: four times a point is one.
func (m *mixer) member() api.Point { return plainTimes(4, m.point()) }

// points are those at the edges, their negatives, and as many others.
func points(others int) []api.Point {
	l := []api.Point{inf, flat}
	for _, p := range []api.Point{
		generator, plainTimes(2, generator), plainTimes(3, generator), plainTimes(order/2, generator),
		at(11, 107485434), at(2147482864, 684680300), // the least and the greatest X of the group
		whole, quarter, plainTimes(2, whole), plainAdd(generator, flat), plainAdd(generator, quarter), plainAdd(whole, flat),
	} {
		l = append(l, p, plainNeg(p))
	}
	m := mixer(1)
	for range others {
		l = append(l, m.point())
	}
	return l
}

// members are those of the group, outside those that are not.
func members(others int) (inside, outside []api.Point) {
	for _, p := range points(0) {
		if plainInGroup(p) {
			inside = append(inside, p)
		} else {
			outside = append(outside, p)
		}
	}
	m := mixer(2)
	for range others {
		p := m.member()
		inside = append(inside, p)
		outside = append(outside, plainAdd(p, flat), plainAdd(p, quarter))
	}
	return inside, outside
}

// noPoints are points with a number changed that are none any more, though some are modulo the prime.
func noPoints() []api.Point {
	l := []api.Point{
		{X: 1, Inf: true}, {Y: 1, Inf: true}, {X: prime, Inf: true}, {Y: prime, Inf: true}, {X: prime, Y: prime, Inf: true},
		{X: generator.X, Y: generator.Y, Inf: true}, {X: greatest, Y: greatest, Inf: true},
		at(0, 1), at(1, 0), at(1, 1), at(0, prime), at(prime, 0), at(prime, prime), at(0, 1<<32), at(1<<32, 0),
		at(prime-1, prime-1), at(greatest, greatest), at(greatest, 0), at(0, greatest),
	}
	for _, p := range []api.Point{generator, plainNeg(generator), whole, quarter} {
		for _, more := range []uint64{prime, 2 * prime, 1 << 32, 1 << 63} {
			l = append(l, at(p.X+more, p.Y), at(p.X, p.Y+more), at(p.X+more, p.Y+more))
		}
		l = append(l, at(p.X, p.Y+1), at(p.X+1, p.Y), at(p.X, 0), at(0, p.Y), at(p.X, -p.Y), at(-p.X, p.Y), at(p.Y, p.X))
	}
	return l
}

// expectNumber fails the test, with the call's name and what it was given, unless the answer is that number, and no error.
func expectNumber(t *testing.T, name string, got api.Pair2, e api.Errno, want api.Pair2, given ...api.Point) {
	t.Helper()
	if got != want || e != api.OK {
		t.Fatalf("%s of %v: %v, error %d, not %v", name, given, got, e, want)
	}
}

// expectNone does, unless the answer is ErrPoint, and nothing else.
func expectNone(t *testing.T, name string, got api.Pair2, e api.Errno, given ...api.Point) {
	t.Helper()
	if got != (api.Pair2{}) || e != api.ErrPoint {
		t.Fatalf("%s of %v: %v, error %d", name, given, got, e)
	}
}

func expectLine(t *testing.T, s, u, q api.Point, want api.Pair2) {
	t.Helper()
	got, e := pair.Line(s, u, q)
	expectNumber(t, "Line", got, e, want, s, u, q)
}

func expectNoLine(t *testing.T, s, u, q api.Point) {
	t.Helper()
	got, e := pair.Line(s, u, q)
	expectNone(t, "Line", got, e, s, u, q)
}

func expectPair(t *testing.T, p, q api.Point, want api.Pair2) {
	t.Helper()
	got, e := pair.Pair(p, q)
	expectNumber(t, "Pair", got, e, want, p, q)
}

func expectNoPair(t *testing.T, p, q api.Point) {
	t.Helper()
	got, e := pair.Pair(p, q)
	expectNone(t, "Pair", got, e, p, q)
}

func expectSame(t *testing.T, a, b, c, d api.Point, want bool) {
	t.Helper()
	if got, e := pair.Same(a, b, c, d); got != want || e != api.OK {
		t.Fatalf("Same of %v, %v, %v, %v: %v, error %d", a, b, c, d, got, e)
	}
}

func expectNoSame(t *testing.T, a, b, c, d api.Point) {
	t.Helper()
	if got, e := pair.Same(a, b, c, d); got || e != api.ErrPoint {
		t.Fatalf("Same of %v, %v, %v, %v: %v, error %d", a, b, c, d, got, e)
	}
}
