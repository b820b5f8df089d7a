package curve

import (
	"pharos/api"
	"pharos/field"
)

// inf is the point that adds nothing. Another one has X and Y 0 too: a point that is its own negative.
var inf = api.Point{Inf: true}

// square is what the square of a point's Y is, by its X.
func square(x uint64) uint64 { return field.Add(field.Mul(field.Mul(x, x), x), x) }

// negative is that of a point.
func negative(p api.Point) api.Point {
	return api.Point{X: p.X, Y: field.Sub(0, p.Y), Inf: p.Inf}
}

// sum is that of two points.
func sum(p, q api.Point) api.Point {
	switch {
	case p == inf:
		return q
	case q == inf:
		return p
	case q == negative(p):
		return inf
	}
	l := slope(p, q)
	x := field.Sub(field.Sub(field.Mul(l, l), p.X), q.X)
	return api.Point{X: x, Y: field.Sub(field.Mul(l, field.Sub(p.X, x)), p.Y)}
}

// slope is that of the line through two points, neither Inf, no negatives of each other: what is divided by is not 0, for no more than two points, negatives of each other, have the same X.
func slope(p, q api.Point) uint64 {
	if p == q {
		return over(field.Add(field.Mul(3, field.Mul(p.X, p.X)), 1), field.Add(p.Y, p.Y))
	}
	return over(field.Sub(q.Y, p.Y), field.Sub(q.X, p.X))
}

// over is a divided by b.
func over(a, b uint64) uint64 { return field.Mul(a, field.Inv(b)) }
