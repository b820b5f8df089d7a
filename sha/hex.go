package sha

import "pharos/api"

const digits = "0123456789abcdef"

// Hex is two digits for each byte of s, the higher half first.
func Hex(s string) string {
	text := make([]byte, 0, 2*len(s))
	for i := range len(s) {
		text = append(text, digits[s[i]>>4], digits[s[i]&15])
	}
	return string(text)
}

// Unhex is the bytes whose Hex s is; ErrArg, if there are none.
func Unhex(s string) (string, api.Errno) {
	if len(s)%2 != 0 {
		return "", api.ErrArg
	}
	text := make([]byte, 0, len(s)/2)
	for i := 0; i < len(s); i += 2 {
		high, isHigh := half(s[i])
		low, isLow := half(s[i+1])
		if !isHigh || !isLow {
			return "", api.ErrArg
		}
		text = append(text, high<<4|low)
	}
	return string(text), api.OK
}

// half is the half byte whose digit is given. Great letters are none: each text has one Hex.
func half(digit byte) (byte, bool) {
	switch {
	case '0' <= digit && digit <= '9':
		return digit - '0', true
	case 'a' <= digit && digit <= 'f':
		return digit - 'a' + 10, true
	}
	return 0, false
}
