package word

import (
	"math/bits"

	"pharos/api"
)

// Shl is a times 2 to the n, modulo 2^256.
func Shl(n, a api.Word) api.Word {
	if !Less(n, Of(256)) {
		return api.Word{}
	}
	return lowest(raise(lengthen(a), uint(n[0])))
}

// Shr is the whole quotient of a by 2 to the n.
func Shr(n, a api.Word) api.Word {
	if !Less(n, Of(256)) {
		return api.Word{}
	}
	return lower(a, uint(n[0]))
}

// Sar is the quotient of a, with its sign, by 2 to the n, downwards.
func Sar(n, a api.Word) api.Word {
	if negative(a) {
		return not(Shr(n, not(a)))
	}
	return Shr(n, a)
}

// Extend is the word of the lowest k + 1 bytes of a, whose highest bit is all higher ones; a, if k is above 30.
func Extend(k, a api.Word) api.Word {
	if !Less(k, Of(31)) {
		return a
	}
	shift := Of(8 * (31 - k[0]))
	return Sar(shift, Shl(shift, a))
}

// Byte is the byte i of a, from the highest one on; 0, if i is above 31.
func Byte(i, a api.Word) api.Word {
	if !Less(i, Of(32)) {
		return api.Word{}
	}
	return Of(lower(a, uint(8*(31-i[0])))[0] & 0xff)
}

// raise is n times 2 to the shift, as far as there is room.
func raise(n long, shift uint) long {
	var raised long
	parts, rest := int(shift/64), shift%64
	for i := parts; i < len(raised); i++ {
		raised[i] = n[i-parts] << rest
		if i > parts {
			raised[i] |= n[i-parts-1] >> (64 - rest)
		}
	}
	return raised
}

// lower is the whole quotient of a by 2 to the shift, which is below 256.
func lower(a api.Word, shift uint) api.Word {
	var lowered api.Word
	parts, rest := int(shift/64), shift%64
	for i := parts; i < len(a); i++ {
		lowered[i-parts] = a[i] >> rest
		if i+1 < len(a) {
			lowered[i-parts] |= a[i+1] << (64 - rest)
		}
	}
	return lowered
}

// leading is how many bits 0 stand ahead of a's highest bit 1.
func leading(a api.Word) uint {
	zeros := 0
	for i := len(a) - 1; i >= 0; i-- {
		zeros += bits.LeadingZeros64(a[i])
		if a[i] != 0 {
			break
		}
	}
	return uint(zeros)
}

func not(a api.Word) api.Word {
	return api.Word{^a[0], ^a[1], ^a[2], ^a[3]}
}
