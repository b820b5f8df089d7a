package sign_test

import (
	"strconv"
	"strings"
	"testing"

	"pharos/api"
	"pharos/sign"
)

// P12.1: texts' points, written out, with the try that leads to each and the number that is tried there.
func TestHashWrittenOut(t *testing.T) {
	for _, c := range []struct {
		name, text string
		try        int
		number     uint64
		want       api.Point
	}{
		{"the empty text, at the third try", "", 2, 3686905033, at(350999073, 834673278)},
		{"at the fourth try", "a", 3, 1169256508, at(1873789658, 1035972051)},
		{"at the fifth try", "b", 4, 352539797, at(68660943, 1298277578)},
		{"not below the prime", "abc", 3, 3871068916, at(29328608, 620604815)},
		{"at the first try", "m", 0, 410211761, at(505461936, 1121557338)},
		{"at the first try, not below the prime", "\x00", 0, 2527237842, at(1465158409, 799992608)},
		{"a byte of all bits", "\xff", 0, 3932012437, at(1865858454, 1065426712)},
		{"at the second try", "\x00\x00", 1, 3480618477, at(48383213, 1498781864)},
		{"a chunk of zeros", strings.Repeat("\x00", 32), 1, 533996660, at(117749635, 1841740879)},
		{"54 bytes", strings.Repeat("x", 54), 2, 3362112428, at(1880125694, 157007780)},
		{"55 bytes", strings.Repeat("x", 55), 0, 2506509185, at(1002988024, 863165619)},
		{"63 bytes", strings.Repeat("x", 63), 0, 3068183282, at(109133534, 608565195)},
		{"64 bytes", strings.Repeat("x", 64), 1, 830906795, at(643452473, 1697535208)},
		{"1000 bytes", strings.Repeat("x", 1000), 0, 820392246, at(236275035, 379038460)},
		{"1000000 bytes", strings.Repeat("x", 1000000), 0, 2125891264, at(273800670, 1142883350)},
		{"behind 30 tries without a root", "2106390923", 30, 1047662299, at(294555231, 1586705094)},
	} {
		t.Run(c.name, func(t *testing.T) {
			expectHash(t, c.text, c.want)
			for n := range c.try {
				if _, p := plainTry(c.text, n); p != inf {
					t.Errorf("the try %d leads to %v", n, p)
				}
			}
			if number, p := plainTry(c.text, c.try); number != c.number || p != c.want {
				t.Errorf("%d is tried, which leads to %v", number, p)
			}
		})
	}
}

// P12.1: a first try that has a root, but four times the point is Inf, is none.
func TestHashBehindInf(t *testing.T) {
	for _, c := range []struct {
		text   string
		number uint64
		try    int
		want   api.Point
	}{
		{"876699657", 0, 2, at(1476056363, 867712057)},
		{"2719823643", prime, 8, at(894150173, 250099547)},
		{"1420208256", 2 * prime, 4, at(1216380920, 391115672)},
		{"5176096847", prime - 1, 2, at(2001252498, 862108302)},
		{"158823659", 2*prime - 1, 2, at(447201286, 824769227)},
	} {
		if number, p := plainTry(c.text, 0); number != c.number || p != inf {
			t.Fatalf("%s: first %d is tried, which leads to %v", c.text, number, p)
		}
		if _, there := plainWith(c.number % prime); !there {
			t.Fatalf("%d has no root", c.number)
		}
		if _, try := plainHash(c.text); try != c.try {
			t.Fatalf("%s: the try %d leads to the point", c.text, try)
		}
		expectHash(t, c.text, c.want)
	}
}

// P12.1: texts at the edges, and others.
func TestHash(t *testing.T) {
	l := edgeTexts()
	for n := range 256 {
		l = append(l, string([]byte{byte(n)}), "a"+string([]byte{byte(n)}), strconv.Itoa(n))
	}
	m := mixer(1)
	for range 500 {
		l = append(l, m.text())
	}
	counts := map[int]int{}
	for _, text := range l {
		want, try := plainHash(text)
		expectHash(t, text, want)
		counts[min(try, 5)]++
	}
	for try := range 6 {
		if counts[try] < 10 {
			t.Errorf("the try %d leads to %d points", try, counts[try])
		}
	}
}

// P12.1: every size of a text counts, and every byte of it.
func TestHashHangsOnAll(t *testing.T) {
	seen := map[api.Point]string{}
	once := func(text string) {
		p := sign.Hash(text)
		if other, there := seen[p]; there && other != text {
			t.Fatalf("%q and %q have one point", other, text)
		}
		seen[p] = text
	}
	text := strings.Repeat("x", 200)
	for n := range text {
		once(text[:n])
		once(text[:n] + "y" + text[n+1:])
		once(text[:n] + "\x00" + text[n+1:])
		once(text[:n] + "\x00")
	}
}

// R4: a text has one point, whatever is asked for ahead.
func TestHashAgain(t *testing.T) {
	m := mixer(2)
	for range 50 {
		text := m.text()
		first := sign.Hash(text)
		sign.Hash(m.text())
		if again := sign.Hash(strings.Clone(text)); again != first {
			t.Fatalf("Hash of %q: %v, then %v", text, first, again)
		}
	}
}
