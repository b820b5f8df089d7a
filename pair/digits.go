package pair

import (
	"iter"
	"math/bits"
)

// behind goes through the bits of n behind its highest one that is set, the highest first, and tells which are set. Of 0 there are none.
func behind(n uint64) iter.Seq[bool] {
	return func(yield func(bool) bool) {
		for place := bits.Len64(n) - 2; place >= 0; place-- {
			if !yield(n>>place&1 == 1) {
				return
			}
		}
	}
}
