package pair_test

import (
	"testing"

	"pharos/api"
	"pharos/pair"
)

// pairing is Pair of what must be points of the group.
func pairing(t *testing.T, p, q api.Point) api.Pair2 {
	t.Helper()
	got, e := pair.Pair(p, q)
	if e != api.OK {
		t.Fatalf("Pair of %v and %v: error %d", p, q, e)
	}
	return got
}

// P11.3: a pairing with Inf is 1, with Inf on either side, and on both.
func TestWithInf(t *testing.T) {
	inside, _ := members(200)
	for _, p := range inside {
		expectPair(t, p, inf, one)
		expectPair(t, inf, p, one)
		expectSame(t, p, inf, inf, p, true)
		expectSame(t, inf, inf, p, p, p == inf)
	}
	expectPair(t, inf, inf, one)
	expectSame(t, inf, inf, inf, inf, true)
}

// What follows from the chapter's words: only with Inf a pairing is 1, and to the Order each is.
func TestNotOne(t *testing.T) {
	m := mixer(7)
	for range 150 {
		p, q := m.member(), m.member()
		for _, got := range []api.Pair2{pairing(t, p, q), pairing(t, p, p), pairing(t, p, plainNeg(p)), pairing(t, generator, q)} {
			if got == one || got.A >= prime || got.B >= prime || power2(got, order) != one {
				t.Fatalf("a pairing of %v and %v: %v", p, q, got)
			}
		}
	}
}

// What follows from the chapter's words: pairings of sums are products, on either side, and negatives are inverses.
func TestSumsAreProducts(t *testing.T) {
	m := mixer(8)
	for range 100 {
		p, q, r := m.member(), m.member(), m.member()
		want := times2(pairing(t, p, r), pairing(t, q, r))
		expectPair(t, plainAdd(p, q), r, want)
		expectPair(t, r, plainAdd(p, q), want)
		if product := times2(pairing(t, p, q), pairing(t, plainNeg(p), q)); product != one {
			t.Fatalf("the pairings of %v, and of its negative, with %v have the product %v", p, q, product)
		}
		expectPair(t, q, p, pairing(t, p, q))
	}
}

// What follows from the chapter's words: pairings of multiples are powers.
func TestMultiplesArePowers(t *testing.T) {
	m := mixer(9)
	for range 100 {
		p, q, j, k := m.member(), m.member(), m.next()%order, m.next()%order
		expectPair(t, plainTimes(j, p), plainTimes(k, q), power2(pairing(t, p, q), j*k%order))
	}
	first := pairing(t, generator, generator)
	want := one
	for n := range uint64(200) {
		expectPair(t, plainTimes(n, generator), generator, want)
		want = times2(want, first)
	}
}
