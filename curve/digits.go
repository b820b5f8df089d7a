package curve

import (
	"iter"
	"math/bits"
)

// digits goes through the bits of n, the highest first, and tells which are set. Those ahead of the first one that is set are left out: Inf doubled is Inf, so a multiple does not hang on them.
func digits(n uint64) iter.Seq[bool] {
	return func(yield func(bool) bool) {
		for place := bits.Len64(n) - 1; place >= 0; place-- {
			if !yield(n>>place&1 == 1) {
				return
			}
		}
	}
}
