package proof_test

import (
	"slices"
	"strings"
	"testing"

	"pharos/api"
	"pharos/trie"
)

// set is right pairs with a name.
type set struct {
	name  string
	pairs []api.Pair
}

// pairs are written key, value, key, value ..
func pairs(texts ...string) []api.Pair {
	var l []api.Pair
	for i := 0; i < len(texts); i += 2 {
		l = append(l, api.Pair{Key: texts[i], Val: texts[i+1]})
	}
	return l
}

// valued are pairs of those keys, with values of about that size.
func valued(size int, keys ...string) []api.Pair {
	var l []api.Pair
	for i, key := range keys {
		val := []byte(made(max(size+i%3-1, 1)))
		val[0] = byte(i)
		l = append(l, api.Pair{Key: key, Val: string(val)})
	}
	return l
}

func animals() []api.Pair {
	return pairs("do", "verb", "dog", "puppy", "doge", "coin", "horse", "stallion")
}

// sets are pairs whose tries have nodes of all kinds, that stand within others or not, and ways from none to the longest.
func sets() []set {
	long := made(64)
	l := []set{
		{"none", nil},
		{"animals", animals()},
		{"one small", pairs("\x12", "v")},
		{"one great", pairs(long, made(1000))},
		{"two leaves within a fork", pairs("\x12", "a", "\x22", "b")},
		{"two leaves beside each other", pairs("\x12"+long[:63], made(1000), "\x22"+long[:63], made(999))},
		{"a bridge to a fork", pairs("\x12", "a", "\x13", "b")},
		{"a bridge to a fork, by digests", pairs("\x12", made(40), "\x13", made(41))},
		{"two that part at the last half", pairs(long[:63]+"\x70", made(40), long[:63]+"\x7f", made(41))},
		{"one that begins the other", pairs("a", "x", "ab", "y")},
		{"one that begins the other, great", pairs(long[:1], made(1000), long, made(1000))},
		{"one that begins others that part", pairs("a", "x", "ab", "y", "ac", "z", "b", "w")},
		{"bridges within forks", pairs("\xaa\x1a", "a", "\xaa\x1b", "b", "\xb0", "c", "\xb1", "d", "\xc0", made(40))},
		{"each begins the next", chain(64, 1, 1)},
		{"each begins the next, with great values", chain(64, 1, 100)},
		{"every other length", chain(64, 2, 35)},
		{"zeros", valued(20, "\x00", "\x00\x00", "\x00\x00\x00", "\x00\x01", "\x01\x00", "\x10\x00")},
		{"ends", valued(3, "\x00", "\x0f", "\xf0", "\xff")},
		{"sixteen ways and a value", valued(40, append(sixteen("ab"), "ab")...)},
		{"values that look like items", pairs("a", "\x80", "b", "\xc0", "c", "\x00", "d", "\x7f", "e", "\xc8\x83cat\x83dog", "fa", strings.Repeat("\xff", 32), "fb", made(32))},
		{"twins", pairs("\x10"+long[:40], "same", "\x20"+long[:40], "same", "\x30"+long[:40], "same", "\x40"+long[:40], "other")},
		{"twin forks", pairs("\x10a", made(50), "\x10b", made(51), "\x20a", made(50), "\x20b", made(51))},
	}
	for size := 26; size < 34; size++ {
		val := made(size)
		l = append(l,
			set{"a leaf about as great as a digest", pairs("\x1a", val, "\x2b", "b")},
			set{"a fork about as great as a digest", pairs("\x1a", "a", "\x1b", val[:size-20], "\x2b", "b")},
			set{"a fork under a bridge", pairs("ab", "x", "ab\x1a", val[:size-18])},
		)
	}
	for _, letters := range []string{"\x00\x01", "\x00\x10", "\x11\x12\x21\x22", "\x00\x7f\x80\xff\x0f\xf0"} {
		for _, size := range []int{1, 8, 29, 100} {
			l = append(l, set{"of few letters", valued(size, spelt(letters, 30)...)})
		}
	}
	return l
}

// chain is pairs whose keys are the beginnings of one, each so many bytes longer.
func chain(longest, step, size int) []api.Pair {
	var keys []string
	for n := step; n <= longest; n += step {
		keys = append(keys, made(64)[:n])
	}
	return valued(size, keys...)
}

// sixteen keys part behind what they begin with.
func sixteen(ahead string) []string {
	var keys []string
	for half := range 16 {
		keys = append(keys, ahead+string([]byte{byte(half * 17)}))
	}
	return keys
}

// spelt is so many keys of those letters, of one to six, none twice.
func spelt(letters string, count int) []string {
	var keys []string
	for n := 1; len(keys) < count; n++ {
		state := uint32(n * 2654435761)
		var key []byte
		for range 1 + n%6 {
			state = state*1664525 + 1013904223
			key = append(key, letters[int(state>>16)%len(letters)])
		}
		if !slices.Contains(keys, string(key)) {
			keys = append(keys, string(key))
		}
	}
	return keys
}

// keysNear is keys to ask for: those of the pairs, those that end too early or go on too long, those that part from them, and others. None is empty, or too long.
func keysNear(l []api.Pair) []string {
	keys := []string{"\x00", "\xff", "a", "zebra", "do", "dogs", made(63), made(64), strings.Repeat("\x00", 64)}
	for i, p := range l {
		keys = append(keys, p.Key)
		if i%(1+len(l)/4) == 0 {
			keys = append(keys, keysNearOne(p.Key)...)
		}
	}
	slices.Sort(keys)
	keys = slices.Compact(keys)
	return slices.DeleteFunc(keys, func(key string) bool { return key == "" || len(key) > 64 })
}

func keysNearOne(key string) []string {
	keys := []string{key[:len(key)-1], key[1:], key + "\x00", key + "\x10", key + "\xff", key + key}
	for _, at := range []int{0, len(key) / 2, len(key) - 1} {
		for _, bits := range []byte{1, 16, 0xff} {
			other := []byte(key)
			other[at] ^= bits
			keys = append(keys, string(other), string(other[:at+1]), key[:at])
		}
	}
	return keys
}

// some is at most so many of all keys, from the first ones to the last.
func some(keys []string, most int) []string {
	var l []string
	for i := 0; i < len(keys); i += 1 + len(keys)/most {
		l = append(l, keys[i])
	}
	return l
}

func rootOf(t *testing.T, l []api.Pair) string {
	t.Helper()
	root, e := trie.Root(l)
	if e != api.OK {
		t.Fatalf("Root: error %d", e)
	}
	return root
}

func wayOf(t *testing.T, l []api.Pair, key string) []string {
	t.Helper()
	way, e := trie.Prove(l, key)
	if e != api.OK {
		t.Fatalf("Prove of %s: error %d", short(key), e)
	}
	return way
}

// truth is what a trie has at a key.
func truth(l []api.Pair, key string) answer {
	for _, p := range l {
		if p.Key == key {
			return value(p.Val)
		}
	}
	return nothing
}
