package curve_test

import (
	"math/big"
	"testing"

	"pharos/api"
	"pharos/curve"
)

// The tests hold sums against the chapter's words, reckoned by math/big, and multiples against those in three coordinates, from the lowest bit on, which divide but once.

const (
	prime    = uint64(api.Prime)
	order    = uint64(api.Order)
	greatest = uint64(1<<64 - 1)
)

var (
	inf       = api.Point{Inf: true}
	generator = at(api.GenX, api.GenY)
	whole     = at(2, 1366308386)         // all points are multiples of it
	flat      = at(0, 0)                  // the one with Y 0: twice it is Inf
	quarter   = at(2147482866, 198372348) // twice it is flat
)

func at(x, y uint64) api.Point { return api.Point{X: x, Y: y} }

func toBig(n uint64) *big.Int { return new(big.Int).SetUint64(n) }

// rest is n modulo the prime, below 0 too.
func rest(n *big.Int) uint64 { return new(big.Int).Mod(n, toBig(prime)).Uint64() }

func minus(a, b uint64) uint64 { return rest(new(big.Int).Sub(toBig(a), toBig(b))) }

// times is the product of all.
func times(l ...uint64) uint64 {
	product := big.NewInt(1)
	for _, n := range l {
		product.Mul(product, toBig(n))
	}
	return rest(product)
}

// inverse is by Euclid's steps, not by a power.
func inverse(a uint64) uint64 {
	return new(big.Int).ModInverse(toBig(a), toBig(prime)).Uint64()
}

// cubic is X to the 3, and X.
func cubic(x uint64) uint64 { return rest(toBig(times(x, x, x) + times(x))) }

func plainOn(p api.Point) bool {
	if p.Inf {
		return p.X == 0 && p.Y == 0
	}
	return p.X < prime && p.Y < prime && times(p.Y, p.Y) == cubic(p.X)
}

func plainNeg(p api.Point) api.Point {
	if p.Inf || p.Y == 0 {
		return p
	}
	return at(p.X, prime-p.Y)
}

func plainAdd(p, q api.Point) api.Point {
	var slope uint64
	switch {
	case p.Inf:
		return q
	case q.Inf:
		return p
	case p.X != q.X:
		slope = times(minus(q.Y, p.Y), inverse(minus(q.X, p.X)))
	case p.Y != q.Y || p.Y == 0:
		return inf
	default:
		slope = times(3*times(p.X, p.X)+1, inverse(2*p.Y))
	}
	x := minus(minus(times(slope, slope), p.X), q.X)
	return at(x, minus(times(slope, minus(p.X, x)), p.Y))
}

// wide is a point whose X is x over z z, and Y y over z z z; z is 0, of Inf.
type wide struct{ x, y, z uint64 }

func (a wide) twice() wide {
	if a.z == 0 || a.y == 0 {
		return wide{}
	}
	s, m := times(4, a.x, a.y, a.y), rest(toBig(times(3, a.x, a.x)+times(a.z, a.z, a.z, a.z)))
	x := minus(times(m, m), 2*s)
	return wide{x, minus(times(m, minus(s, x)), times(8, a.y, a.y, a.y, a.y)), times(2, a.y, a.z)}
}

func (a wide) and(b wide) wide {
	u, v := times(a.x, b.z, b.z), times(b.x, a.z, a.z)
	s, t := times(a.y, b.z, b.z, b.z), times(b.y, a.z, a.z, a.z)
	switch {
	case a.z == 0:
		return b
	case b.z == 0:
		return a
	case u == v && s == t:
		return a.twice()
	case u == v:
		return wide{}
	}
	h, r := minus(v, u), minus(t, s)
	x := minus(minus(times(r, r), times(h, h, h)), times(2, u, h, h))
	return wide{x, minus(times(r, minus(times(u, h, h), x)), times(s, h, h, h)), times(h, a.z, b.z)}
}

func (a wide) point() api.Point {
	if a.z == 0 {
		return inf
	}
	over := inverse(a.z)
	return at(times(a.x, over, over), times(a.y, over, over, over))
}

func plainTimes(n uint64, p api.Point) api.Point {
	if p.Inf {
		return inf
	}
	multiple, double := wide{}, wide{p.X, p.Y, 1}
	for ; n > 0; n /= 2 {
		if n%2 == 1 {
			multiple = multiple.and(double)
		}
		double = double.twice()
	}
	return multiple.point()
}

func plainInGroup(p api.Point) bool { return plainOn(p) && plainTimes(order, p) == inf }

// plainWith is the point with that X and an even Y, or an odd one.
func plainWith(x, odd uint64) (api.Point, bool) {
	root := new(big.Int).ModSqrt(toBig(cubic(x)), toBig(prime))
	switch {
	case x >= prime || root == nil:
		return api.Point{}, false
	case root.Sign() == 0:
		return at(x, 0), odd == 0
	case root.Uint64()%2 == odd:
		return at(x, root.Uint64()), true
	default:
		return at(x, prime-root.Uint64()), true
	}
}

// mixer makes the same numbers in each run.
type mixer uint64

func (m *mixer) next() uint64 {
	*m += 0x9e3779b97f4a7c15
	z := uint64(*m)
	z = (z ^ z>>30) * 0xbf58476d1ce4e5b9
	z = (z ^ z>>27) * 0x94d049bb133111eb
	return z ^ z>>31
}

// point makes one, of all points.
func (m *mixer) point() api.Point {
	for {
		if p, ok := plainWith(m.next()%prime, m.next()%2); ok {
			return p
		}
	}
}

// member makes a point of the group: four times a point is one.
func (m *mixer) member() api.Point { return plainTimes(4, m.point()) }

// number makes those of all lengths.
func (m *mixer) number() uint64 { return m.next() >> (m.next() % 64) }

// points are those at the edges, their negatives, and as many others.
func points(others int) []api.Point {
	l := []api.Point{inf, flat}
	for _, p := range []api.Point{
		generator, whole, quarter,
		plainTimes(2, generator), plainTimes(3, generator), plainTimes(order/2, generator),
		plainTimes(2, whole), plainTimes(3, whole),
		plainAdd(generator, flat), plainAdd(generator, quarter), plainAdd(whole, flat),
		at(11, 107485434), at(2147482864, 684680300), // the least and the greatest X of the group
	} {
		l = append(l, p, plainNeg(p))
	}
	m := mixer(1)
	for range others {
		l = append(l, m.point())
	}
	return l
}

// noPoints are points with a number changed that are none any more, though some are modulo the prime.
func noPoints() []api.Point {
	l := []api.Point{
		{X: 1, Inf: true}, {Y: 1, Inf: true}, {X: 1, Y: 1, Inf: true}, {X: prime, Inf: true}, {Y: prime, Inf: true}, {X: prime, Y: prime, Inf: true},
		{X: generator.X, Y: generator.Y, Inf: true}, {X: greatest, Y: greatest, Inf: true},
		at(0, 1), at(1, 0), at(1, 1), at(0, prime), at(prime, 0), at(prime, prime), at(0, 2*prime), at(0, 1<<32), at(1<<32, 0),
		at(prime-1, 0), at(0, prime-1), at(prime-1, prime-1), at(greatest, greatest), at(greatest, 0), at(0, greatest),
		at(generator.Y, generator.X), at(whole.Y, whole.X), at(prime-2, whole.Y),
	}
	for _, p := range []api.Point{generator, plainNeg(generator), whole, quarter, plainTimes(2, generator)} {
		for _, more := range []uint64{prime, 2 * prime, 1 << 32, 1 << 63, prime << 32} {
			l = append(l, at(p.X+more, p.Y), at(p.X, p.Y+more), at(p.X+more, p.Y+more))
		}
		l = append(l, at(p.X, p.Y+1), at(p.X, p.Y-1), at(p.X+1, p.Y), at(p.X, 0), at(0, p.Y), at(p.X, -p.Y), at(-p.X, p.Y))
	}
	return l
}

// edgeNumbers are those that multiples are tried with.
func edgeNumbers() []uint64 {
	return []uint64{
		0, 1, 2, 3, 4, 5, 6, 7, 8, 15, 16, 255, 256,
		order/2 - 1, order / 2, order/2 + 1, order - 2, order - 1, order, order + 1, order + 2,
		2*order - 1, 2 * order, 2*order + 1, 3 * order, prime - 1, prime, 4 * order, 4*order + 1,
		1<<32 - 1, 1 << 32, order << 32, 1<<63 - 1, 1 << 63, 1<<63 + 1, 0xaaaaaaaaaaaaaaaa, 0x5555555555555555, greatest - 1, greatest,
	}
}

// expectPoint fails the test, with the call's name and what it was given, unless the answer is that point, and no error.
func expectPoint(t *testing.T, name string, got api.Point, e api.Errno, want api.Point, given ...any) {
	t.Helper()
	if got != want || e != api.OK {
		t.Fatalf("%s of %v: %v, error %d, not %v", name, given, got, e, want)
	}
}

// expectNone does, unless the answer is ErrPoint, and nothing else.
func expectNone(t *testing.T, name string, got api.Point, e api.Errno, given ...any) {
	t.Helper()
	if got != (api.Point{}) || e != api.ErrPoint {
		t.Fatalf("%s of %v: %v, error %d", name, given, got, e)
	}
}

func expectSum(t *testing.T, p, q, want api.Point) {
	t.Helper()
	got, e := curve.Add(p, q)
	expectPoint(t, "Add", got, e, want, p, q)
}

func expectTimes(t *testing.T, n uint64, p, want api.Point) {
	t.Helper()
	got, e := curve.Times(n, p)
	expectPoint(t, "Times", got, e, want, n, p)
}

func expectNeg(t *testing.T, p, want api.Point) {
	t.Helper()
	got, e := curve.Neg(p)
	expectPoint(t, "Neg", got, e, want, p)
}
