package rlp

import (
	"math/bits"

	"pharos/api"
)

const numberSize = 8 // bytes of the greatest number

// Number is n's bytes, the highest first, as few as it can be.
func Number(n uint64) string {
	bytes := make([]byte, (bits.Len64(n)+7)/8)
	for i := range bytes {
		bytes[len(bytes)-1-i] = byte(n >> (8 * i))
	}
	return string(bytes)
}

// Value is the number whose Number s is; ErrRlp, if there is none.
func Value(s string) (uint64, api.Errno) {
	if len(s) > numberSize || s != "" && s[0] == 0 {
		return 0, api.ErrRlp
	}
	var n uint64
	for i := range len(s) {
		n = n<<8 | uint64(s[i])
	}
	return n, api.OK
}
