// Package word is layer 1: numbers of 256 bits. See shared/doc/01-word.md.
package word

import (
	"math/bits"

	"pharos/api"
)

// Of is the word of a small number.
func Of(n uint64) api.Word { return api.Word{n} }

// Add is a + b, modulo 2^256.
func Add(a, b api.Word) api.Word {
	sum, _ := plus(a, b)
	return sum
}

// Sub is a - b, modulo 2^256.
func Sub(a, b api.Word) api.Word {
	difference, _ := minus(a, b)
	return difference
}

// Mul is a times b, modulo 2^256.
func Mul(a, b api.Word) api.Word { return lowest(product(a, b)) }

// Div is the whole quotient of a by b, or 0 if b is 0.
func Div(a, b api.Word) api.Word {
	quotient, _ := divide(lengthen(a), b)
	return quotient
}

// Mod is the remainder of a by b, or 0 if b is 0.
func Mod(a, b api.Word) api.Word {
	_, rest := divide(lengthen(a), b)
	return rest
}

// SDiv is the quotient with signs, towards 0, or 0 if b is 0.
func SDiv(a, b api.Word) api.Word {
	return signed(negative(a) != negative(b), Div(size(a), size(b)))
}

// SMod is the remainder with signs, which has a's sign, or 0 if b is 0.
func SMod(a, b api.Word) api.Word {
	return signed(negative(a), Mod(size(a), size(b)))
}

// AddMod is the remainder of the whole sum by m, or 0 if m is 0.
func AddMod(a, b, m api.Word) api.Word {
	sum, carry := plus(a, b)
	whole := lengthen(sum)
	whole[len(sum)] = carry
	_, rest := divide(whole, m)
	return rest
}

// MulMod is the remainder of the whole product by m, or 0 if m is 0.
func MulMod(a, b, m api.Word) api.Word {
	_, rest := divide(product(a, b), m)
	return rest
}

// Exp is a to the n, modulo 2^256; a to the 0 is 1.
func Exp(a, n api.Word) api.Word {
	power := Of(1)
	for n != (api.Word{}) {
		if n[0]&1 == 1 {
			power = Mul(power, a)
		}
		a = Mul(a, a)
		n = lower(n, 1)
	}
	return power
}

// Less tells whether a is below b.
func Less(a, b api.Word) bool {
	_, borrow := minus(a, b)
	return borrow == 1
}

// SLess tells whether a is below b, with signs.
func SLess(a, b api.Word) bool {
	if negative(a) != negative(b) {
		return negative(a)
	}
	return Less(a, b)
}

// plus is a + b, and what is carried beyond 256 bits.
func plus(a, b api.Word) (sum api.Word, carry uint64) {
	for i := range sum {
		sum[i], carry = bits.Add64(a[i], b[i], carry)
	}
	return sum, carry
}

// minus is a - b, and 1 if b is the greater one.
func minus(a, b api.Word) (difference api.Word, borrow uint64) {
	for i := range difference {
		difference[i], borrow = bits.Sub64(a[i], b[i], borrow)
	}
	return difference, borrow
}

// times is a times n: the lowest 256 bits, and the part above them.
func times(a api.Word, n uint64) (result api.Word, above uint64) {
	for i, part := range a {
		high, low := bits.Mul64(part, n)
		sum, carry := bits.Add64(low, above, 0)
		result[i], above = sum, high+carry
	}
	return result, above
}

// product is the whole a times b.
func product(a, b api.Word) long {
	var sum long
	for i, part := range b {
		row, above := times(a, part)
		row, carry := plus(row, api.Word{sum[i], sum[i+1], sum[i+2], sum[i+3]})
		copy(sum[i:], row[:])
		sum[i+len(row)] = above + carry
	}
	return sum
}

func negative(a api.Word) bool { return a[3]>>63 == 1 }

// size is a without its sign. That of -2^255 is 2^255, which is the same word.
func size(a api.Word) api.Word { return signed(negative(a), a) }

// signed is a, or what is as far below 0.
func signed(below bool, a api.Word) api.Word {
	if below {
		return Sub(api.Word{}, a)
	}
	return a
}
