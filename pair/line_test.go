package pair_test

import (
	"testing"

	"pharos/api"
)

// P11.1: lines, written out, through points either way round.
func TestLinesWrittenOut(t *testing.T) {
	twice, thrice := at(1350530835, 2077719295), at(2114676381, 844318637)
	opposite, crossing := at(1846166884, 736464254), at(1614883410, 1916998047)
	for _, c := range []struct {
		name    string
		s, u, q api.Point
		want    api.Pair2
	}{
		{"two unlike points", generator, twice, thrice, api.Pair2{A: 153106698, B: 844318637}},
		{"a point and itself", generator, generator, thrice, api.Pair2{A: 1120123299, B: 844318637}},
		{"twice it and itself", twice, twice, generator, api.Pair2{A: 789152978, B: 1411018613}},
		{"at the first", generator, twice, generator, api.Pair2{A: 260961081, B: 1411018613}},
		{"at the second", generator, twice, twice, api.Pair2{A: 927661763, B: 2077719295}},
		{"at both", generator, generator, generator, api.Pair2{A: 864015087, B: 1411018613}},
		{"at the negative", generator, generator, opposite, api.Pair2{A: 864015087, B: 736464254}},
		{"a point and its negative", generator, opposite, thrice, one},
		{"those, at one of both", generator, opposite, generator, one},
		{"Y 0, and itself", flat, flat, generator, one},
		{"Y 0, and itself, at itself", flat, flat, flat, one},
		{"Inf", inf, generator, twice, one},
		{"Inf, at the other", inf, generator, generator, one},
		{"Inf, and Y 0", inf, flat, generator, one},
		{"Inf and Inf", inf, inf, generator, one},
		{"one outside the group", whole, generator, quarter, api.Pair2{A: 1018153221, B: 198372348}},
		{"outside, all three", whole, whole, whole, api.Pair2{A: 468107124, B: 1366308386}},
		{"outside, negatives", quarter, at(2147482866, 1949110519), whole, one},
		{"outside, and itself", quarter, quarter, generator, api.Pair2{A: 90332794, B: 1411018613}},
		{"outside, and Y 0", quarter, flat, generator, api.Pair2{A: 90332794, B: 1411018613}},
		{"Y 0, and another", flat, generator, twice, api.Pair2{A: 926734529, B: 2077719295}},
		{"at Y 0", generator, twice, flat, api.Pair2{A: 1572454101}},
		{"outside, at Y 0", whole, whole, flat, api.Pair2{A: 1698382236}},
		{"Y 0, at Y 0", generator, flat, flat, api.Pair2{}},
		{"one that goes through Y 0, there", generator, crossing, flat, api.Pair2{}},
		{"one that touches, and goes through Y 0, there", quarter, quarter, flat, api.Pair2{}},
		{"one that goes through Y 0", generator, crossing, generator, api.Pair2{A: 1411018613, B: 1411018613}},
	} {
		t.Run(c.name, func(t *testing.T) {
			expectLine(t, c.s, c.u, c.q, c.want)
			expectLine(t, c.u, c.s, c.q, c.want)
		})
	}
}

// P11.1: lines through the points at the edges, each with each, at each but Inf, and at others.
func TestLines(t *testing.T) {
	l := points(12)
	for _, s := range l {
		for _, u := range l {
			expectNoLine(t, s, u, inf)
			for _, q := range l {
				if q != inf {
					expectLine(t, s, u, q, plainLine(s, u, q))
				}
			}
		}
	}
}

// P11.1: lines through many points, and at many.
func TestManyLines(t *testing.T) {
	m := mixer(3)
	for range 2000 {
		s, u, q := m.point(), m.point(), m.point()
		for _, q := range []api.Point{q, s, u, plainNeg(s), plainNeg(plainAdd(s, u))} {
			expectLine(t, s, u, q, plainLine(s, u, q))
			expectLine(t, s, s, q, plainLine(s, s, q))
			expectLine(t, s, plainNeg(s), q, one)
			expectLine(t, s, inf, q, one)
			expectLine(t, inf, u, q, one)
		}
	}
}

// P11.1: there is no line, if one of the three, or all, is no point.
func TestNoLines(t *testing.T) {
	l := []api.Point{inf, flat, generator, plainNeg(generator), whole, quarter}
	for _, wrong := range noPoints() {
		if plainOn(wrong) {
			t.Fatalf("%v is a point", wrong)
		}
		for _, p := range l {
			for _, q := range l {
				expectNoLine(t, wrong, p, q)
				expectNoLine(t, p, wrong, q)
				expectNoLine(t, p, q, wrong)
			}
			expectNoLine(t, wrong, wrong, p)
			expectNoLine(t, wrong, p, wrong)
			expectNoLine(t, p, wrong, wrong)
		}
		expectNoLine(t, wrong, wrong, wrong)
	}
}

// What follows from the chapter's words: three points of a line have that line, but for Inf.
func TestOneLine(t *testing.T) {
	m := mixer(4)
	for range 1000 {
		s, u, q := m.point(), m.point(), m.point()
		third := plainNeg(plainAdd(s, u))
		want := plainLine(s, u, q)
		for _, ends := range [][2]api.Point{{s, u}, {u, s}, {s, third}, {third, s}, {u, third}, {third, u}} {
			expectLine(t, ends[0], ends[1], q, want)
		}
	}
}
