package curve_test

import (
	"strings"
	"testing"

	"pharos/api"
	"pharos/curve"
)

// text is five bytes: a first one, and X.
func text(first byte, x uint64) string {
	return string([]byte{first, byte(x >> 24), byte(x >> 16), byte(x >> 8), byte(x)})
}

// plainFrom goes the way of the chapter's words, case by case.
func plainFrom(s string) (api.Point, bool) {
	if s == "\x00\x00\x00\x00\x00" {
		return inf, true
	}
	if len(s) != 5 || s[0] != 2 && s[0] != 3 {
		return api.Point{}, false
	}
	x := uint64(0)
	for _, b := range []byte(s[1:]) {
		x = 256*x + uint64(b)
	}
	p, there := plainWith(x, uint64(s[0])-2)
	return p, there && plainInGroup(p)
}

func expectBytes(t *testing.T, p api.Point, want string) {
	t.Helper()
	if got, e := curve.Bytes(p); got != want || e != api.OK {
		t.Fatalf("Bytes of %v: %x, error %d, not %x", p, got, e, want)
	}
}

func expectNoBytes(t *testing.T, p api.Point) {
	t.Helper()
	if got, e := curve.Bytes(p); got != "" || e != api.ErrPoint {
		t.Fatalf("Bytes of %v: %x, error %d", p, got, e)
	}
}

func expectFrom(t *testing.T, s string, want api.Point) {
	t.Helper()
	got, e := curve.From(s)
	expectPoint(t, "From", got, e, want, []byte(s))
}

func expectFromNone(t *testing.T, s string) {
	t.Helper()
	got, e := curve.From(s)
	expectNone(t, "From", got, e, []byte(s))
}

// expectPlain asks whether s is read as the chapter says.
func expectPlain(t *testing.T, s string) {
	t.Helper()
	if want, there := plainFrom(s); there {
		expectFrom(t, s, want)
	} else {
		expectFromNone(t, s)
	}
}

// P10.2: points as bytes, and back, written out: Inf, and Y odd and even.
func TestBytesWrittenOut(t *testing.T) {
	for _, c := range []struct {
		p api.Point
		s string
	}{
		{inf, "\x00\x00\x00\x00\x00"},
		{generator, "\x03\x6e\x0a\x45\x64"},
		{at(1846166884, 736464254), "\x02\x6e\x0a\x45\x64"},
		{at(1350530835, 2077719295), "\x03\x50\x7f\x77\x13"},
		{at(1350530835, 69763572), "\x02\x50\x7f\x77\x13"},
		{at(40633056, 814748720), "\x02\x02\x6c\x02\xe0"},
		{at(10352346, 1614029091), "\x03\x00\x9d\xf6\xda"},
		{at(11, 107485434), "\x02\x00\x00\x00\x0b"},
		{at(11, 2039997433), "\x03\x00\x00\x00\x0b"},
		{at(2147482864, 684680300), "\x02\x7f\xff\xfc\xf0"},
	} {
		expectBytes(t, c.p, c.s)
		expectFrom(t, c.s, c.p)
	}
}

// P10.2: points that are none of the group, and what is no point, have no bytes.
func TestNoBytes(t *testing.T) {
	expectNoBytes(t, whole)
	expectNoBytes(t, flat)
	expectNoBytes(t, quarter)
	for _, p := range noPoints() {
		expectNoBytes(t, p)
	}
	for _, p := range points(1000) {
		if !plainInGroup(p) {
			expectNoBytes(t, p)
			expectFromNone(t, text(2, p.X))
			expectFromNone(t, text(3, p.X))
		}
	}
}

// P10.2: a text has five bytes.
func TestFromSizes(t *testing.T) {
	for _, p := range []api.Point{inf, generator, plainNeg(generator)} {
		s, _ := curve.Bytes(p)
		for _, more := range []string{"\x00", "\x02", "\x03", "\x00\x00", s, s + s, strings.Repeat("\x00", 1<<16)} {
			expectFromNone(t, s+more)
			expectFromNone(t, more+s)
		}
		for cut := range len(s) {
			expectFromNone(t, s[:cut])
			expectFromNone(t, s[cut+1:])
		}
		expectFrom(t, s, p)
	}
	expectFromNone(t, "")
}

// P10.2: the first byte is 00, of Inf alone, or 02, or 03.
func TestFromFirstBytes(t *testing.T) {
	for _, p := range []api.Point{generator, plainNeg(generator), plainTimes(2, generator), at(11, 107485434)} {
		for first := range 256 {
			switch s := text(byte(first), p.X); {
			case first == 2+int(p.Y%2):
				expectFrom(t, s, p)
			case first == 2 || first == 3:
				expectFrom(t, s, plainNeg(p))
			default:
				expectFromNone(t, s)
			}
		}
	}
	for first := range 256 {
		if first != 0 {
			expectFromNone(t, text(byte(first), 0)) // of 0, and 2 and 3, the one point is none of the group
		}
		for _, x := range []uint64{2, prime - 1, prime, prime + 11, api.GenX + prime, 1<<32 - 1} {
			expectFromNone(t, text(byte(first), x))
		}
	}
}

// P10.2: behind 00 all bytes are 0.
func TestFromInf(t *testing.T) {
	expectFrom(t, text(0, 0), inf)
	for bit := range 32 {
		expectFromNone(t, text(0, 1<<bit))
	}
	for _, x := range []uint64{11, api.GenX, prime, 1<<32 - 1} {
		expectFromNone(t, text(0, x))
	}
}

// P10.2: an X is below the prime, though another one might be a point's modulo it.
func TestFromNotBelowPrime(t *testing.T) {
	for _, x := range []uint64{0, 2, 11, 40, 44, 58, api.GenX, 1350530835, 2114676381, 40633056, 2147482864} {
		for _, first := range []byte{2, 3} {
			if x+prime < 1<<32 {
				expectFromNone(t, text(first, x+prime))
			}
			expectPlain(t, text(first, x))
		}
	}
	m := mixer(4)
	for range 300 {
		if p := m.member(); p.X+prime < 1<<32 {
			expectFromNone(t, text(2, p.X+prime))
			expectFromNone(t, text(3, p.X+prime))
		}
	}
}

// P10.2: an X of which there is no point, or none of the group, or one whose Y is 0.
func TestFromNoPoint(t *testing.T) {
	for _, x := range []uint64{0, 1, 2, 3, 4, 5, 6, 7, 8, 9, 10, 12, prime - 1} {
		expectFromNone(t, text(2, x))
		expectFromNone(t, text(3, x))
	}
}

// P10.2: texts of many X that stand beside each other, and of others.
func TestFrom(t *testing.T) {
	const many = 1500
	read := 0
	ask := func(x uint64) {
		for _, first := range []byte{2, 3} {
			s := text(first, x)
			expectPlain(t, s)
			if _, e := curve.From(s); e == api.OK {
				read++
			}
		}
	}
	for _, from := range []uint64{0, api.GenX - many/2, prime - many, prime, 1<<32 - many} {
		for x := from; x < from+many; x++ {
			ask(x)
		}
	}
	m := mixer(5)
	for range many {
		ask(m.next() % (1 << 32))
	}
	// An eighth of the X below the prime are those of the group, and each has two texts.
	if read < 1000 || read > 1700 {
		t.Errorf("%d texts were read", read)
	}
}

// P10.2: bytes of points with a bit changed.
func TestFromChanged(t *testing.T) {
	m := mixer(6)
	for _, p := range []api.Point{inf, generator, m.member(), m.member(), m.member()} {
		s, _ := curve.Bytes(p)
		for bit := range 40 {
			changed := []byte(s)
			changed[bit/8] ^= 1 << (bit % 8)
			expectPlain(t, string(changed))
		}
	}
}
