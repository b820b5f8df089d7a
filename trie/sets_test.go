package trie_test

import (
	"slices"
	"strings"

	"pharos/api"
)

// set is right pairs with a name.
type set struct {
	name  string
	pairs []api.Pair
}

// pairs are written key, value, key, value ..
func pairs(texts ...string) []api.Pair {
	var l []api.Pair
	for i := 0; i < len(texts); i += 2 {
		l = append(l, api.Pair{Key: texts[i], Val: texts[i+1]})
	}
	return l
}

// valued are pairs of those keys, with values of about that size, no two alike if it is above 1.
func valued(size int, keys ...string) []api.Pair {
	var l []api.Pair
	for i, key := range keys {
		val := []byte(made(max(size+i%3-1, 1)))
		val[0] = byte(i)
		l = append(l, api.Pair{Key: key, Val: string(val)})
	}
	return l
}

func animals() []api.Pair {
	return pairs("do", "verb", "dog", "puppy", "doge", "coin", "horse", "stallion")
}

// sets are pairs with all the edges: how many, how long, where their paths part.
func sets() []set {
	long := made(64)
	l := []set{
		{"none", nil},
		{"animals", animals()},
		{"one small", pairs("\x12", "v")},
		{"one great", pairs(long, made(1000))},
		{"two that part at once", pairs("\x12", "a", "\x22", "b")},
		{"two that part at once, great", pairs("\x12"+long[:63], made(1000), "\x22"+long[:63], made(999))},
		{"two that part at a second half", pairs("\x12", "a", "\x13", "b")},
		{"two that part at a later byte's first half", pairs("ab\x12", "a", "ab\x22", "b")},
		{"two that part at a later byte's second half", pairs("ab\x12", "a", "ab\x13", "b")},
		{"two that part at the last half", pairs(long[:63]+"\x70", made(40), long[:63]+"\x7f", made(41))},
		{"two that part ahead of the last half", pairs(long[:63]+"\x70", made(40), long[:63]+"\x80", made(41))},
		{"one that begins the other", pairs("a", "x", "ab", "y")},
		{"one that begins the other, great", pairs(long[:1], made(1000), long, made(1000))},
		{"one that begins the other, but for a byte", pairs(long[:63], made(60), long, made(61))},
		{"one that begins others that part", pairs("a", "x", "ab", "y", "ac", "z", "b", "w")},
		{"each begins the next", chain(64, 1, 1)},
		{"each begins the next, with great values", chain(64, 1, 100)},
		{"every other length", chain(64, 2, 35)},
		{"zeros", valued(20, "\x00", "\x00\x00", "\x00\x00\x00", "\x00\x01", "\x01\x00", "\x10\x00")},
		{"ends", valued(3, "\x00", "\x0f", "\xf0", "\xff")},
		{"sixteen ways", valued(40, everyByte(16)[:16]...)},
		{"sixteen ways and a value", valued(40, append(prefixed("ab", everyByte(16)[:16]), "ab")...)},
		{"sixteen second halves", valued(2, everyByte(1)[32:48]...)},
		{"values that look like items", pairs("a", "\x80", "b", "\xc0", "c", "\x00", "d", "\x7f", "e", "\xc8\x83cat\x83dog", "fa", strings.Repeat("\xff", 32), "fb", made(32))},
		{"twins", pairs("\x10"+long[:40], "same", "\x20"+long[:40], "same", "\x30"+long[:40], "same", "\x40"+long[:40], "other")},
		{"twin forks", pairs("\x10a", made(50), "\x10b", made(51), "\x20a", made(50), "\x20b", made(51))},
		{"200 of one byte, small", valued(1, everyByte(1)[:200]...)},
		{"200 of one byte, of all halves", valued(30, everyByte(7)[:200]...)},
		{"200 great", greatPairs(200)},
	}
	for _, letters := range []string{"\x00\x01", "\x00\x10", "ab", "\x11\x12\x21\x22", "\x00\x7f\x80\xff\x0f\xf0"} {
		for _, size := range []int{1, 8, 20, 28, 29, 30, 100} {
			l = append(l, set{"of few letters", valued(size, spelt(letters, 40)...)})
		}
	}
	return l
}

// chain is pairs whose keys are the beginnings of one, each so many bytes longer.
func chain(longest, step, size int) []api.Pair {
	var keys []string
	for n := step; n <= longest; n += step {
		keys = append(keys, made(64)[:n])
	}
	return valued(size, keys...)
}

// everyByte is all keys of one byte, in an order that steps so far (an odd number, or 16 for the first sixteen).
func everyByte(step int) []string {
	var keys []string
	for i := range 256 {
		keys = append(keys, string([]byte{byte(i * step)}))
	}
	return keys
}

func prefixed(ahead string, keys []string) []string {
	var l []string
	for _, key := range keys {
		l = append(l, ahead+key)
	}
	return l
}

// spelt is so many keys of those letters, of one to six, none twice.
func spelt(letters string, count int) []string {
	var keys []string
	for n := 1; len(keys) < count; n++ {
		state := uint32(n * 2654435761)
		var key []byte
		for range 1 + n%6 {
			state = state*1664525 + 1013904223
			key = append(key, letters[int(state>>16)%len(letters)])
		}
		if !slices.Contains(keys, string(key)) {
			keys = append(keys, string(key))
		}
	}
	return keys
}

// greatPairs are so many of 64 and 1000 bytes.
func greatPairs(count int) []api.Pair {
	var l []api.Pair
	for i := range count {
		key := []byte(made(64))
		key[i%7*9] = byte(i)
		key[63] = byte(i * 5)
		val := []byte(made(1000))
		val[i] = byte(i)
		val[999] = byte(i)
		l = append(l, api.Pair{Key: string(key), Val: string(val)})
	}
	return l
}

// keysNear is keys to ask for: those of the pairs, those that end too early or go on too long, those that part from them, and others. Of many pairs it takes some.
func keysNear(l []api.Pair) []string {
	keys := []string{"", "\x00", "\xff", "a", "zebra", made(63), made(64), made(65), made(1000), strings.Repeat("\x00", 65)}
	for i, p := range l {
		if i%(1+len(l)/50) == 0 {
			keys = append(keys, p.Key)
		}
		if i%(1+len(l)/4) == 0 {
			keys = append(keys, keysNearOne(p.Key)...)
		}
	}
	slices.Sort(keys)
	return slices.Compact(keys)
}

func keysNearOne(key string) []string {
	keys := []string{key[:len(key)-1], key[1:], key + "\x00", key + "\x10", key + "\xff", key + key, key + made(65)}
	for _, at := range []int{0, len(key) / 2, len(key) - 1} {
		for _, bits := range []byte{1, 16, 0xff} {
			other := []byte(key)
			other[at] ^= bits
			keys = append(keys, string(other), string(other[:at+1]), key[:at])
		}
	}
	return keys
}
