package sign

import (
	"iter"
	"slices"

	"pharos/api"
	"pharos/curve"
)

// Sum is the sum of points, as bytes all of them.
func Sum(points []string) (string, api.Errno) {
	sum, e := total(handOn(points))
	if e != api.OK {
		return "", e
	}
	return curve.Bytes(sum)
}

// handOn is a closure that hands the points on whose bytes are given, one by one, or ErrPoint where there is none, or one of those that are barred.
func handOn(points []string, barred ...api.Point) iter.Seq2[api.Point, api.Errno] {
	return func(yield func(api.Point, api.Errno) bool) {
		for _, s := range points {
			p, e := curve.From(s)
			if slices.Contains(barred, p) {
				p, e = api.Point{}, api.ErrPoint
			}
			if !yield(p, e) {
				return
			}
		}
	}
}

// total is the sum of all points that are handed on, or the first error.
func total(points iter.Seq2[api.Point, api.Errno]) (api.Point, api.Errno) {
	sum := inf
	for p, e := range points {
		if e != api.OK {
			return api.Point{}, e
		}
		sum, _ = curve.Add(sum, p)
	}
	return sum, api.OK
}
