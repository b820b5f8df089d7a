package pair_test

import (
	"testing"

	"pharos/api"
)

// P11.2: pairings of multiples of the generator, written out, either way round.
func TestPairingsWrittenOut(t *testing.T) {
	for _, c := range []struct {
		m, n uint64
		want api.Pair2
	}{
		{1, 1, api.Pair2{A: 608256699, B: 144341658}},
		{1, 2, api.Pair2{A: 1086198160, B: 695666233}},
		{2, 2, api.Pair2{A: 1952374266, B: 690399620}},
		{2, 3, api.Pair2{A: 1717312821, B: 1682462398}},
		{6, 1, api.Pair2{A: 1717312821, B: 1682462398}},
		{5, 1, api.Pair2{A: 1373980225, B: 479828967}},
		{12345, 678, api.Pair2{A: 1234491972, B: 2066233806}},
		{1, order - 1, api.Pair2{A: 608256699, B: 2003141209}},
		{order - 1, order - 1, api.Pair2{A: 608256699, B: 144341658}},
		{2, order - 2, api.Pair2{A: 1952374266, B: 1457083247}},
		{2, order/2 + 1, api.Pair2{A: 608256699, B: 144341658}},
		{order / 2, order / 2, api.Pair2{A: 550585540, B: 673662117}},
		{0, 1, one},
		{order, 1, one},
		{0, 0, one},
	} {
		p, q := plainTimes(c.m, generator), plainTimes(c.n, generator)
		expectPair(t, p, q, c.want)
		expectPair(t, q, p, c.want)
	}
}

// P11.2: pairings of points of the group at the edges, each with each, and of others.
func TestPairings(t *testing.T) {
	inside, _ := members(12)
	for _, p := range inside {
		for _, q := range inside {
			expectPair(t, p, q, plainPair(p, q))
		}
	}
}

// P11.2: pairings of many points, each of which is a point and itself, or its negative, or another.
func TestManyPairings(t *testing.T) {
	m := mixer(5)
	for range 150 {
		p := m.member()
		for _, q := range []api.Point{m.member(), p, plainNeg(p), plainTimes(2, p), generator} {
			expectPair(t, p, q, plainPair(p, q))
		}
	}
}

// P11.2: there is no pairing, if one of both, or both, is a point outside the group, or none; with Inf neither.
func TestNoPairings(t *testing.T) {
	inside, outside := members(3)
	wrong := append(outside, noPoints()...)
	for _, w := range wrong {
		for _, p := range inside {
			expectNoPair(t, w, p)
			expectNoPair(t, p, w)
		}
		expectNoPair(t, w, w)
		expectNoPair(t, w, wrong[0])
		expectNoPair(t, wrong[0], w)
	}
}

// P11.2: whether pairings are the same, written out.
func TestSameWrittenOut(t *testing.T) {
	for _, c := range []struct {
		a, b, c, d uint64
		want       bool
	}{
		{2, 3, 6, 1, true},
		{2, 3, 5, 1, false},
		{1, 1, 1, 1, true},
		{2, 3, 3, 2, true},
		{2, 3, 1, 6, true},
		{2, 3, 2, 4, false},
		{2, 3, 1, 3, false},
		{2, 3, order - 2, order - 3, true},
		{2, 3, order - 2, 3, false},
		{1, 1, 1, order - 1, false},
		{1, order - 1, order - 1, 1, true},
		{2, order/2 + 1, 1, 1, true},
		{0, 1, 1, 0, true},
		{0, 0, 0, 5, true},
		{0, 1, 1, 1, false},
		{1, 1, 0, 1, false},
		{1, 1, 1, 0, false},
		{1, 0, 1, 1, false},
		{0, 0, 2, 3, false},
		{order, 7, 0, 0, true},
	} {
		expectSame(t, plainTimes(c.a, generator), plainTimes(c.b, generator), plainTimes(c.c, generator), plainTimes(c.d, generator), c.want)
	}
}

// P11.2: whether pairings are the same, of points at the edges, and of others.
func TestSame(t *testing.T) {
	inside, _ := members(0)
	type both struct{ p, q api.Point }
	var l []both
	for _, p := range inside {
		l = append(l, both{p, generator}, both{generator, p}, both{p, p}, both{p, inf}, both{plainNeg(p), p})
	}
	wants := make([]api.Pair2, len(l))
	for n, a := range l {
		wants[n] = plainPair(a.p, a.q)
	}
	for m, a := range l {
		for n, b := range l {
			expectSame(t, a.p, a.q, b.p, b.q, wants[m] == wants[n])
		}
	}
}

// P11.2: whether pairings are the same hangs on the products of the multiples alone.
func TestSameByProducts(t *testing.T) {
	m := mixer(6)
	for range 100 {
		j, k := m.next()%order, m.next()%order
		p := m.member()
		jp, kp, jkp := plainTimes(j, p), plainTimes(k, p), plainTimes(j*k%order, p)
		expectSame(t, jp, kp, jkp, p, true)
		expectSame(t, p, jkp, kp, jp, true)
		expectSame(t, jp, kp, plainAdd(jkp, p), p, false)
	}
}

// P11.2: each one of the four in turn is a point outside the group, or none, whatever the other three are.
func TestNoSame(t *testing.T) {
	_, outside := members(1)
	for _, w := range append(outside, noPoints()...) {
		for _, l := range [][4]api.Point{
			{generator, generator, generator, generator},
			{inf, inf, inf, inf},
			{inf, generator, generator, inf},
			{generator, generator, generator, plainTimes(2, generator)},
		} {
			for place := range l {
				with := l
				with[place] = w
				expectNoSame(t, with[0], with[1], with[2], with[3])
			}
		}
		expectNoSame(t, w, generator, w, generator)
		expectNoSame(t, generator, w, generator, w)
		expectNoSame(t, w, w, w, w)
	}
}
