package word

import (
	"iter"
	"math/bits"

	"pharos/api"
)

// long holds a product of two words, and the 256 bits by which a division may raise it; its lowest part is the first.
type long [12]uint64

func lengthen(a api.Word) long { return long{a[0], a[1], a[2], a[3]} }

func lowest(n long) api.Word { return api.Word{n[0], n[1], n[2], n[3]} }

// downwards yields the parts of a number with their places, the highest first.
func downwards(n long) iter.Seq2[int, uint64] {
	return func(yield func(int, uint64) bool) {
		for place := len(n) - 1; place >= 0; place-- {
			if !yield(place, n[place]) {
				return
			}
		}
	}
}

// divide is the lowest 256 bits of the quotient, and the remainder, of n by d; both are 0 if d is 0. The highest four parts of n are 0.
func divide(n long, d api.Word) (api.Word, api.Word) {
	var none, rest api.Word
	if d == none {
		return none, none
	}
	// With the divisor's highest bit set a digit is guessed at most 2 too great; raising both leaves the quotient as it is.
	shift := leading(d)
	divisor := lowest(raise(lengthen(d), shift))
	left := raise(n, shift)
	var quotient long
division:
	for place, part := range downwards(left) {
		left[place] = 0
		above := rest[3]
		rest = api.Word{part, rest[0], rest[1], rest[2]}
		switch {
		case above != 0 || !Less(rest, divisor):
			quotient[place], rest = digit(above, rest, divisor)
		case rest == none && left == (long{}):
			break division // only digits 0 would follow
		}
	}
	return lowest(quotient), lower(rest, shift)
}

// digit is the quotient and the remainder of above times 2^256, and n, by a divisor whose highest bit is set, if the quotient has one part.
func digit(above uint64, n, divisor api.Word) (uint64, api.Word) {
	guess := ^uint64(0)
	if above < divisor[3] {
		guess, _ = bits.Div64(above, n[3], divisor[3])
	}
	taken, takenAbove := times(divisor, guess)
	rest, borrow := minus(n, taken)
	above -= takenAbove + borrow
	for above != 0 { // the guess was too great, and the rest is below 0
		var carry uint64
		guess--
		rest, carry = plus(rest, divisor)
		above += carry
	}
	return guess, rest
}
