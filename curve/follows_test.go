package curve_test

import (
	"testing"

	"pharos/api"
	"pharos/curve"
)

// add is Add of what must be points.
func add(t *testing.T, p, q api.Point) api.Point {
	t.Helper()
	sum, e := curve.Add(p, q)
	if e != api.OK || !curve.On(sum) {
		t.Fatalf("Add of %v and %v: %v, error %d", p, q, sum, e)
	}
	return sum
}

// P10.3: Inf adds nothing, as either one; a negative is a point; a point and it are Inf, as either one.
func TestInfAndNegatives(t *testing.T) {
	for _, p := range points(3000) {
		expectSum(t, inf, p, p)
		expectSum(t, p, inf, p)
		negative, e := curve.Neg(p)
		if e != api.OK || !curve.On(negative) || curve.InGroup(negative) != curve.InGroup(p) {
			t.Fatalf("Neg of %v: %v, error %d", p, negative, e)
		}
		expectNeg(t, negative, p)
		expectSum(t, p, negative, inf)
		expectSum(t, negative, p, inf)
		if (negative == p) != (p == inf || p == flat) {
			t.Fatalf("the negative of %v is %v", p, negative)
		}
	}
}

// P10.3: points of the group and their bytes are one to one: bytes lead back, and no two points have the same.
func TestOneToOne(t *testing.T) {
	owner := map[string]api.Point{}
	keep := func(p api.Point) {
		s, e := curve.Bytes(p)
		if e != api.OK || len(s) != 5 {
			t.Fatalf("Bytes of %v: %x, error %d", p, s, e)
		}
		if other, there := owner[s]; there && other != p {
			t.Fatalf("%v and %v have the bytes %x", p, other, s)
		}
		owner[s] = p
		expectFrom(t, s, p)
	}
	m := mixer(7)
	for range 1500 {
		p := m.member()
		keep(p)
		keep(plainNeg(p))
	}
	for p := inf; len(owner) < 5000; p = plainAdd(p, generator) {
		keep(p)
	}
}

// P10.3: what is read has those bytes, of many texts.
func TestReadAndTold(t *testing.T) {
	m := mixer(8)
	read := 0
	for range 20000 {
		s := text(byte(m.next()%5), m.next()%(1<<32))
		if p, e := curve.From(s); e == api.OK {
			read++
			expectBytes(t, p, s)
			if !curve.InGroup(p) {
				t.Fatalf("From of %x is none of the group", s)
			}
		}
	}
	if read < 300 {
		t.Errorf("%d texts were read", read)
	}
}

// What follows from the chapter's words: sums do not hang on the order, nor on which two are summed first.
func TestLaws(t *testing.T) {
	l := points(10)
	for _, p := range l {
		for _, q := range l {
			sum := add(t, p, q)
			expectSum(t, q, p, sum)
			for _, r := range l {
				expectSum(t, sum, r, add(t, p, add(t, q, r)))
			}
		}
	}
}

// What follows from the chapter's words: two points and the negative of their sum stand on one line.
func TestOnOneLine(t *testing.T) {
	m := mixer(9)
	for range 3000 {
		p, q := m.point(), m.point()
		third := plainNeg(add(t, p, q))
		if third.Inf {
			continue
		}
		across := times(minus(q.Y, p.Y), minus(third.X, p.X))
		if up := times(minus(third.Y, p.Y), minus(q.X, p.X)); up != across {
			t.Fatalf("%v, %v and %v do not stand on one line", p, q, third)
		}
	}
}

// What follows from the chapter's words: multiples add up, modulo how many points there are, and are taken of sums one by one.
func TestLawsOfMultiples(t *testing.T) {
	m := mixer(10)
	multiple := func(n uint64, p api.Point) api.Point {
		got, e := curve.Times(n, p)
		if e != api.OK || !curve.On(got) {
			t.Fatalf("Times of %d and %v: %v, error %d", n, p, got, e)
		}
		return got
	}
	for range 500 {
		p, q, j, k := m.point(), m.point(), m.next()>>1, m.next()>>1
		expectSum(t, multiple(j, p), multiple(k, p), multiple(j+k, p))
		expectSum(t, multiple(j, p), multiple(j, q), multiple(j, add(t, p, q)))
		expectTimes(t, j%(4*order), p, multiple(j, p))
		expectTimes(t, k>>32, multiple(j>>32, p), multiple((k>>32)*(j>>32), p))
		inside := multiple(4, p)
		expectTimes(t, j%order, inside, multiple(j, inside))
		expectTimes(t, order-1, inside, plainNeg(inside))
	}
}

// The group is closed: sums, negatives and multiples of its points are its points.
func TestGroupIsClosed(t *testing.T) {
	m := mixer(11)
	for range 300 {
		p, q := m.member(), m.member()
		multiple, _ := curve.Times(m.next(), p)
		for _, r := range []api.Point{p, q, add(t, p, q), add(t, p, plainNeg(q)), plainNeg(p), multiple} {
			if !curve.InGroup(r) {
				t.Fatalf("%v, of %v and %v, is none of the group", r, p, q)
			}
		}
		if r := add(t, p, whole); curve.InGroup(r) {
			t.Fatalf("%v, of %v and one outside, is of the group", r, p)
		}
	}
}
