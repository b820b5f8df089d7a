package pair

import (
	"pharos/api"
	"pharos/curve"
	"pharos/field"
)

// inf is the point that adds nothing.
var inf = api.Point{Inf: true}

// line is the one through two points, at a third one that is not Inf.
func line(s, t, q api.Point) api.Pair2 {
	if s == inf || t == inf || t == negative(s) {
		return one
	}
	return api.Pair2{A: field.Sub(field.Mul(slope(s, t), field.Add(s.X, q.X)), s.Y), B: q.Y}
}

// slope is that of the line through two points, neither Inf, no negatives of each other: what is divided by is not 0, for no more than two points, negatives of each other, have the same X.
func slope(s, t api.Point) uint64 {
	if s == t {
		return over(field.Add(field.Mul(3, field.Mul(s.X, s.X)), 1), field.Add(s.Y, s.Y))
	}
	return over(field.Sub(t.Y, s.Y), field.Sub(t.X, s.X))
}

// over is a divided by b.
func over(a, b uint64) uint64 { return field.Mul(a, field.Inv(b)) }

// negative is that of a point: of points there is no error.
func negative(s api.Point) api.Point {
	opposite, _ := curve.Neg(s)
	return opposite
}

// sum is that of two points.
func sum(s, t api.Point) api.Point {
	both, _ := curve.Add(s, t)
	return both
}
