package rlp_test

import (
	"math"
	"strings"
	"testing"

	"pharos/api"
	"pharos/rlp"
)

// P4.3: the named edges, written out.
func TestNumberEdges(t *testing.T) {
	cases := map[uint64]string{
		0:              "",
		1:              "\x01",
		127:            "\x7f",
		128:            "\x80",
		255:            "\xff",
		256:            "\x01\x00",
		65535:          "\xff\xff",
		65536:          "\x01\x00\x00",
		0x0102030405:   "\x01\x02\x03\x04\x05",
		math.MaxUint32: "\xff\xff\xff\xff",
		1 << 32:        "\x01\x00\x00\x00\x00",
		1 << 56:        "\x01\x00\x00\x00\x00\x00\x00\x00",
		math.MaxInt64:  "\x7f\xff\xff\xff\xff\xff\xff\xff",
		1 << 63:        "\x80\x00\x00\x00\x00\x00\x00\x00",
		math.MaxUint64: "\xff\xff\xff\xff\xff\xff\xff\xff",
	}
	for n, s := range cases {
		if got := rlp.Number(n); got != s {
			t.Errorf("Number of %d is %x, not %x", n, got, s)
		}
		if got, e := rlp.Value(s); got != n || e != api.OK {
			t.Errorf("Value of %x is %d, error %d, not %d", s, got, e, n)
		}
	}
}

// P4.3: numbers near each power of two, and all small ones, there and back.
func TestNumberThereAndBack(t *testing.T) {
	check := func(n uint64) {
		s := rlp.Number(n)
		back, e := rlp.Value(s)
		if s != plainNumber(n) || back != n || e != api.OK {
			t.Errorf("Number of %d is %x, back %d, error %d", n, s, back, e)
		}
	}
	for n := range uint64(70000) {
		check(n)
		check(math.MaxUint64 - n)
		check(n * 0x9e3779b97f4a7c15)
	}
	for bit := range 64 {
		for near := range uint64(5) {
			check(1<<bit + near - 2)
		}
	}
}

// P4.3: bytes that are no number's.
func TestNoValue(t *testing.T) {
	wrong := []string{
		"\x00", "\x00\x00", "\x00\x01", "\x00\xff", "\x00\x01\x00", "\x00\x00\x00\x00\x00\x00\x00\x01", "\x00\xff\xff\xff\xff\xff\xff\xff",
		"\x01\x00\x00\x00\x00\x00\x00\x00\x00", "\xff\xff\xff\xff\xff\xff\xff\xff\xff", "\x00\xff\xff\xff\xff\xff\xff\xff\xff", "\x00\x00\x00\x00\x00\x00\x00\x00\x00", "\x00\x00\x00\x00\x00\x00\x00\x00\x01",
		strings.Repeat("\x01", 16), strings.Repeat("\x00", 16), made(70000), strings.Repeat("\x00", 70000),
	}
	for _, s := range wrong {
		if n, e := rlp.Value(s); n != 0 || e != api.ErrRlp {
			t.Errorf("Value of %s is %d, error %d", short(s), n, e)
		}
	}
}

// P4.3: of all short bytes those are a number's that some Number is.
func TestEveryShortValue(t *testing.T) {
	for high := range 256 {
		for low := range 256 {
			s := string([]byte{byte(high), byte(low)})
			n, e := rlp.Value(s)
			if high == 0 && (n != 0 || e != api.ErrRlp) || high > 0 && (n != uint64(high*256+low) || e != api.OK) {
				t.Errorf("Value of %x is %d, error %d", s, n, e)
			}
		}
		n, e := rlp.Value(string([]byte{byte(high)}))
		if high == 0 && (n != 0 || e != api.ErrRlp) || high > 0 && (n != uint64(high) || e != api.OK) {
			t.Errorf("Value of %02x is %d, error %d", high, n, e)
		}
	}
}
