package sign

import (
	"iter"

	"pharos/api"
	"pharos/curve"
	"pharos/field"
	"pharos/sha"
)

const (
	mostTries = 256 // of a text: as many as the byte behind it can tell apart
	fold      = 4   // there are so many times more points than in the group: each one, times it, is in the group
)

// Hash is a text's point.
func Hash(text string) api.Point { return firstOf(tries(text)) }

// firstOf is the first point of the group, but Inf, that one of the tries leads to.
func firstOf(tries iter.Seq[uint64]) api.Point {
	found := generator
trying:
	for x := range tries {
		if p := lifted(x); p != inf {
			found = p
			break trying
		}
	}
	return found
}

// tries goes through the X, below the prime, that are tried for a text's point.
func tries(text string) iter.Seq[uint64] {
	return func(yield func(uint64) bool) {
		for n := range mostTries {
			sum := sha.Sum(text, string([]byte{byte(n)}))
			x := uint64(sum[0])<<24 | uint64(sum[1])<<16 | uint64(sum[2])<<8 | uint64(sum[3])
			if !yield(x % api.Prime) {
				return
			}
		}
	}
}

// lifted is the point of the group that x leads to: Inf, if it is no point's X.
func lifted(x uint64) api.Point {
	y, there := field.Root(field.Add(field.Mul(field.Mul(x, x), x), x))
	if !there {
		return inf
	}
	p, _ := curve.Times(fold, api.Point{X: x, Y: y})
	return p
}
