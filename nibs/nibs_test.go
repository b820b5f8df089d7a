package nibs_test

import (
	"encoding/hex"
	"strings"
	"testing"

	"pharos/nibs"
)

// made is a text of that many bytes, unlike from place to place.
func made(size int) string {
	s := make([]byte, size)
	for i := range s {
		s[i] = byte(i*i*7 + i*31 + i/251 + size*13)
	}
	return string(s)
}

// madePath is a path of that many bytes, unlike from place to place.
func madePath(size int) string {
	s := []byte(made(size))
	for i := range s {
		s[i] = s[i]>>4 ^ s[i]&15
	}
	return string(s)
}

// short tells a text, its middle left out if it is long.
func short(s string) string {
	if len(s) > 40 {
		return hex.EncodeToString([]byte(s[:16])) + ".." + hex.EncodeToString([]byte(s[len(s)-16:]))
	}
	return hex.EncodeToString([]byte(s))
}

// plainPath is a key's path by its hexadecimal digits: each tells one half.
func plainPath(key string) string {
	var path []byte
	for _, digit := range hex.EncodeToString([]byte(key)) {
		path = append(path, byte(strings.IndexRune("0123456789abcdef", digit)))
	}
	return string(path)
}

// P5.1: paths written out.
func TestPathsWrittenOut(t *testing.T) {
	cases := map[string]string{
		"":                 "",
		"\x00":             "\x00\x00",
		"\x0f":             "\x00\x0f",
		"\x10":             "\x01\x00",
		"\xab":             "\x0a\x0b",
		"\xf0":             "\x0f\x00",
		"\xff":             "\x0f\x0f",
		"do":               "\x06\x04\x06\x0f",
		"\x00\x00":         "\x00\x00\x00\x00",
		"\x00\xff":         "\x00\x00\x0f\x0f",
		"\xff\x00":         "\x0f\x0f\x00\x00",
		"\x01\x23\x45\x67": "\x00\x01\x02\x03\x04\x05\x06\x07",
		"\x89\xab\xcd\xef": "\x08\x09\x0a\x0b\x0c\x0d\x0e\x0f",
		"é":                "\x0c\x03\x0a\x09",
		"\xff\xfe\x80":     "\x0f\x0f\x0f\x0e\x08\x00",
	}
	for key, want := range cases {
		if got := nibs.Of(key); got != want {
			t.Errorf("Of %x is %x, not %x", key, got, want)
		}
		if plain := plainPath(key); plain != want {
			t.Errorf("the plain path of %x is %x, not %x", key, plain, want)
		}
	}
}

// P5.1, P5.3: every key of one and of two bytes, and of every length to 300; of twice as many bytes, all of them halves.
func TestPaths(t *testing.T) {
	check := func(key string) {
		got := nibs.Of(key)
		if got != plainPath(key) {
			t.Errorf("Of %s is %s", short(key), short(got))
		}
		if len(got) != 2*len(key) {
			t.Errorf("Of %s has %d bytes", short(key), len(got))
		}
	}
	for first := range 256 {
		check(string([]byte{byte(first)}))
		for second := range 256 {
			check(string([]byte{byte(first), byte(second)}))
		}
	}
	for size := range 300 {
		check(made(size))
	}
	check(made(1 << 20))
}

// P5.1: what two texts have alike, written out.
func TestCommonWrittenOut(t *testing.T) {
	cases := []struct {
		a, b string
		want int
	}{
		{"", "", 0},
		{"", "a", 0},
		{"", "\x00", 0},
		{"a", "a", 1},
		{"a", "b", 0},
		{"a", "ab", 1},
		{"b", "ab", 0},
		{"ab", "abc", 2},
		{"abc", "abd", 2},
		{"abc", "abcd", 3},
		{"abc", "xbc", 0},
		{"abc", "axc", 1},
		{"abc", "axcabc", 1},
		{"aaa", "aaaa", 3},
		{"aaab", "aaaa", 3},
		{"\x00", "\x00\x00", 1},
		{"\x00\x00", "\x00\x01", 1},
		{"\x01\x02\x03", "\x01\x02\x03\x04", 3},
		{"\xff", "\x7f", 0},
		{"\xff\xfe", "\xff\xff", 1},
		{"\x0f\x0f", "\x0f\x10", 1},
		// Two letters that have their first byte alike: bytes are counted.
		{"é", "è", 1},
		{"xé", "xè", 2},
	}
	for _, x := range cases {
		if got, turned := nibs.Common(x.a, x.b), nibs.Common(x.b, x.a); got != x.want || turned != x.want {
			t.Errorf("Common of %x and %x is %d, turned %d, not %d", x.a, x.b, got, turned, x.want)
		}
	}
}

// P5.1: two texts of all lengths to 40 that differ nowhere, or in one place (the first and the last among them), by one bit or all.
func TestCommon(t *testing.T) {
	long := made(40)
	for one := range len(long) + 1 {
		for other := range len(long) + 1 {
			a, b := long[:one], long[:other]
			if got, want := nibs.Common(a, b), min(one, other); got != want {
				t.Errorf("Common of %x and %x is %d", a, b, got)
			}
			for at := range other {
				for _, bits := range []byte{1, 16, 128, 255} {
					unlike := changed(b, at, bits)
					if got, want := nibs.Common(a, unlike), min(one, at); got != want {
						t.Errorf("Common of %x and %x is %d, not %d", a, unlike, got, want)
					}
				}
			}
		}
	}
}

// changed is s with some bits of one byte turned.
func changed(s string, at int, bits byte) string {
	b := []byte(s)
	b[at] ^= bits
	return string(b)
}

// P5.1: long texts, alike and unlike at an end.
func TestCommonLong(t *testing.T) {
	a := made(1 << 20)
	cases := []struct {
		b    string
		want int
	}{
		{strings.Clone(a), 1 << 20},
		{a + "a", 1 << 20},
		{a[:len(a)-1], 1<<20 - 1},
		{changed(a, len(a)-1, 1), 1<<20 - 1},
		{changed(a, 0, 1), 0},
		{changed(a, 70000, 1), 70000},
		{"", 0},
	}
	for _, x := range cases {
		if got := nibs.Common(a, x.b); got != x.want {
			t.Errorf("Common is %d, not %d", got, x.want)
		}
		if got := nibs.Common(x.b, a); got != x.want {
			t.Errorf("Common, turned, is %d, not %d", got, x.want)
		}
	}
}

// P5.1: two keys' paths have twice as many bytes alike as the keys, and one more if the first unlike bytes' higher halves are alike.
func TestCommonOfPaths(t *testing.T) {
	for size := range 20 {
		key := made(size + 1)
		for at := range size + 1 {
			for bits := 1; bits < 256; bits++ {
				other := changed(key, at, byte(bits))
				want := 2 * at
				if bits < 16 {
					want++
				}
				if got := nibs.Common(nibs.Of(key), nibs.Of(other)); got != want {
					t.Errorf("the paths of %x and %x have %d alike, not %d", key, other, got, want)
				}
			}
		}
	}
}
