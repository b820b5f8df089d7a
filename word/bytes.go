package word

import "pharos/api"

const wordSize = 32

// Bytes is the 32 bytes of a, the highest one first.
func Bytes(a api.Word) string {
	var text [wordSize]byte
	for i := range text {
		text[wordSize-1-i] = byte(a[i/8] >> (i % 8 * 8))
	}
	return string(text[:])
}

// From is the number of the last 32 bytes of s, or of all if there are fewer.
func From(s string) api.Word {
	s = s[max(0, len(s)-wordSize):]
	var a api.Word
	for i := range len(s) {
		a[i/8] |= uint64(s[len(s)-1-i]) << (i % 8 * 8)
	}
	return a
}
