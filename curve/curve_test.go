package curve_test

import (
	"testing"

	"pharos/api"
	"pharos/curve"
)

// The chapter's words: there are 4 Order points in all, Order of them in the group, which is a prime; all are multiples of one.
func TestOrders(t *testing.T) {
	if !toBig(order).ProbablyPrime(64) || 4*order != prime+1 {
		t.Errorf("%d is no prime, or four times it is not %d and 1", order, prime)
	}
	for _, c := range []struct {
		p     api.Point
		times uint64
	}{{inf, 1}, {flat, 2}, {quarter, 4}, {generator, order}, {plainTimes(2, whole), 2 * order}, {whole, 4 * order}} {
		for _, n := range []uint64{1, 2, 4, order, 2 * order, 4 * order} {
			if got := plainTimes(n, c.p) == inf; got != (n%c.times == 0) {
				t.Errorf("%d times %v is Inf: %v", n, c.p, got)
			}
		}
	}
}

// P10.1: what is a point, and what is one of the group, written out.
func TestOnWrittenOut(t *testing.T) {
	for _, c := range []struct {
		name        string
		p           api.Point
		on, inGroup bool
	}{
		{"Inf", inf, true, true},
		{"the generator", generator, true, true},
		{"its negative", at(1846166884, 736464254), true, true},
		{"twice it", at(1350530835, 2077719295), true, true},
		{"the group's least X", at(11, 107485434), true, true},
		{"the group's greatest X", at(2147482864, 684680300), true, true},
		{"the chapter's", at(2, 1366308386), true, false},
		{"its negative", at(2, 781174481), true, false},
		{"twice it", at(697931932, 1192543326), true, false},
		{"0, 0", at(0, 0), true, false},
		{"the greatest X", at(2147482866, 198372348), true, false},
		{"the generator and 0, 0", at(1614883410, 230484820), true, false},
		{"1, 1", at(1, 1), false, false},
		{"the generator, Y and 1", at(1846166884, 1411018614), false, false},
		{"the generator, X and P", at(3993649751, 1411018613), false, false},
		{"the generator, Y and P", at(1846166884, 3558501480), false, false},
		{"P, P", at(2147482867, 2147482867), false, false},
		{"Inf with an X", api.Point{X: 1, Inf: true}, false, false},
		{"Inf with a Y", api.Point{Y: 1, Inf: true}, false, false},
		{"the generator as Inf", api.Point{X: 1846166884, Y: 1411018613, Inf: true}, false, false},
	} {
		if got := curve.On(c.p); got != c.on {
			t.Errorf("On of %s: %v", c.name, got)
		}
		if got := curve.InGroup(c.p); got != c.inGroup {
			t.Errorf("InGroup of %s: %v", c.name, got)
		}
	}
}

// P10.1: what is a point, of many.
func TestOn(t *testing.T) {
	for _, p := range points(3000) {
		if !plainOn(p) || !curve.On(p) {
			t.Fatalf("%v is no point", p)
		}
		for _, q := range []api.Point{at(p.X, p.Y^1), at(p.X^1, p.Y), at(p.Y, p.X), at(prime-p.X, p.Y), at(p.X+prime, p.Y), at(p.X, p.Y+prime)} {
			if got := curve.On(q); got != plainOn(q) {
				t.Fatalf("On of %v: %v", q, got)
			}
		}
		if q := (api.Point{X: p.X, Y: p.Y, Inf: true}); curve.On(q) != (q == inf) {
			t.Fatalf("On of %v", q)
		}
	}
	for _, p := range noPoints() {
		if curve.On(p) || plainOn(p) {
			t.Fatalf("%v is a point", p)
		}
	}
}

// P10.1: to each X below the prime there are two points, or none; but to 0 there is one.
func TestPointsOfX(t *testing.T) {
	for x := range uint64(500) {
		for _, x := range []uint64{x, prime - 1 - x} {
			even, thereEven := plainWith(x, 0)
			odd, thereOdd := plainWith(x, 1)
			for _, y := range []uint64{0, 1, 2, x, prime - 1, even.Y, odd.Y, even.Y + 1, odd.Y + 1} {
				want := thereEven && y == even.Y || thereOdd && y == odd.Y
				if got := curve.On(at(x, y)); got != want {
					t.Fatalf("On of %d, %d: %v", x, y, got)
				}
			}
		}
	}
}

// P10.1: which points are of the group, of many.
func TestInGroup(t *testing.T) {
	inside := 0
	for _, p := range points(2000) {
		got := curve.InGroup(p)
		if got != plainInGroup(p) {
			t.Fatalf("InGroup of %v: %v", p, got)
		}
		if got {
			inside++
		}
		if four := plainTimes(4, p); !curve.InGroup(four) {
			t.Fatalf("InGroup of four times %v: false", p)
		}
	}
	if inside < 400 || inside > 600 {
		t.Errorf("%d of some 2000 points are of the group", inside)
	}
	for _, p := range noPoints() {
		if curve.InGroup(p) {
			t.Fatalf("InGroup of %v, which is no point", p)
		}
	}
}

// P10.1: a point of the group, and one of those outside that the others are made up with, is none of the group.
func TestBesideGroup(t *testing.T) {
	m := mixer(2)
	for range 300 {
		p := m.member()
		if !curve.InGroup(p) {
			t.Fatalf("InGroup of %v: false", p)
		}
		for _, q := range []api.Point{flat, quarter, plainNeg(quarter)} {
			if outside := plainAdd(p, q); curve.InGroup(outside) {
				t.Fatalf("InGroup of %v: true", outside)
			}
		}
	}
}

// P10.1: sums, written out.
func TestSumsWrittenOut(t *testing.T) {
	for _, c := range []struct{ p, q, want api.Point }{
		{inf, inf, inf},
		{inf, flat, flat},
		{flat, flat, inf},
		{inf, generator, generator},
		{generator, generator, at(1350530835, 2077719295)},
		{generator, at(1350530835, 2077719295), at(2114676381, 844318637)},
		{generator, at(2114676381, 844318637), at(40633056, 814748720)},
		{at(1350530835, 2077719295), at(1350530835, 2077719295), at(40633056, 814748720)},
		{generator, at(1846166884, 736464254), inf},
		{at(1350530835, 2077719295), at(1846166884, 736464254), generator},
		{whole, whole, at(697931932, 1192543326)},
		{whole, at(2, 781174481), inf},
		{whole, generator, at(274174699, 303013064)},
		{generator, flat, at(1614883410, 230484820)},
		{whole, flat, at(1073741434, 732164337)},
		{quarter, flat, at(2147482866, 1949110519)},
		{quarter, quarter, flat},
		{quarter, at(2147482866, 1949110519), inf},
		{generator, quarter, at(1919396538, 196465426)},
	} {
		expectSum(t, c.p, c.q, c.want)
		expectSum(t, c.q, c.p, c.want)
	}
}

// P10.1: sums of the points at the edges, each with each, and of others.
func TestSums(t *testing.T) {
	l := points(80)
	for _, p := range l {
		for _, q := range l {
			expectSum(t, p, q, plainAdd(p, q))
		}
		expectSum(t, p, p, plainTimes(2, p))
	}
}

// P10.1: negatives, written out and of many.
func TestNegatives(t *testing.T) {
	expectNeg(t, inf, inf)
	expectNeg(t, flat, flat)
	expectNeg(t, generator, at(1846166884, 736464254))
	expectNeg(t, at(1846166884, 736464254), generator)
	expectNeg(t, whole, at(2, 781174481))
	expectNeg(t, quarter, at(2147482866, 1949110519))
	for _, p := range points(3000) {
		expectNeg(t, p, plainNeg(p))
	}
}

// P10.1: multiples, written out.
func TestMultiplesWrittenOut(t *testing.T) {
	opposite := at(2147482866, 1949110519)
	for _, c := range []struct {
		n                               uint64
		ofGenerator, ofWhole, ofQuarter api.Point
	}{
		{0, inf, inf, inf},
		{1, generator, whole, quarter},
		{2, at(1350530835, 2077719295), at(697931932, 1192543326), flat},
		{3, at(2114676381, 844318637), at(1223907613, 1070727251), opposite},
		{4, at(40633056, 814748720), generator, inf},
		{5, at(565207627, 966861326), at(274174699, 303013064), quarter},
		{6, at(10352346, 1614029091), at(1961859518, 1616536196), flat},
		{7, at(1067278040, 222114308), at(1604436788, 110123179), opposite},
		{536870716, at(1846166884, 736464254), at(487068761, 990432958), inf},
		{536870717, inf, opposite, quarter},
		{536870718, generator, at(705977276, 1142355661), flat},
		{1073741434, inf, flat, flat},
		{1073741435, generator, at(1073741434, 732164337), opposite},
		{2147482868, inf, inf, inf},
		{18446744073709551615, at(841916532, 663645263), at(319465328, 588647670), opposite},
	} {
		expectTimes(t, c.n, generator, c.ofGenerator)
		expectTimes(t, c.n, whole, c.ofWhole)
		expectTimes(t, c.n, quarter, c.ofQuarter)
		expectTimes(t, c.n, inf, inf)
		if c.n%2 == 0 {
			expectTimes(t, c.n, flat, inf)
		} else {
			expectTimes(t, c.n, flat, flat)
		}
	}
}

// P10.1: multiples of the points at the edges, by the numbers at the edges, and others.
func TestMultiples(t *testing.T) {
	m := mixer(3)
	for _, p := range points(40) {
		for _, n := range append(edgeNumbers(), m.next(), m.next(), m.number(), m.number()) {
			expectTimes(t, n, p, plainTimes(n, p))
		}
	}
	for bit := range 64 {
		for _, n := range []uint64{1 << bit, 1<<bit - 1, greatest << bit} {
			expectTimes(t, n, generator, plainTimes(n, generator))
			expectTimes(t, n, whole, plainTimes(n, whole))
		}
	}
}

// P10.1: small multiples are sums, one point after the other.
func TestMultiplesAreSums(t *testing.T) {
	for _, p := range points(10) {
		want := inf
		for n := range uint64(150) {
			expectTimes(t, n, p, want)
			want = plainAdd(want, p)
		}
	}
}

// P10.1: of what is no point there is no sum, as either one of two or as both, no negative and no multiple.
func TestNoPoints(t *testing.T) {
	l := points(5)
	for _, wrong := range noPoints() {
		for _, p := range l {
			got, e := curve.Add(wrong, p)
			expectNone(t, "Add", got, e, wrong, p)
			got, e = curve.Add(p, wrong)
			expectNone(t, "Add", got, e, p, wrong)
		}
		for _, other := range noPoints() {
			got, e := curve.Add(wrong, other)
			expectNone(t, "Add", got, e, wrong, other)
		}
		got, e := curve.Neg(wrong)
		expectNone(t, "Neg", got, e, wrong)
		for _, n := range edgeNumbers() {
			got, e := curve.Times(n, wrong)
			expectNone(t, "Times", got, e, n, wrong)
		}
	}
}
