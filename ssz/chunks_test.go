package ssz_test

import (
	"encoding/binary"
	"slices"
	"strings"
	"testing"

	"pharos/api"
	"pharos/ssz"
)

// P8.1: Pack at the edges, written out.
func TestPackEdges(t *testing.T) {
	a, b := strings.Repeat("a", 32), strings.Repeat("b", 32)
	cases := []struct {
		s    string
		want []string
	}{
		{"", nil},
		{"a", []string{"a" + zeros[1:]}},
		{"\x00", []string{zeros}},
		{a[:31], []string{a[:31] + "\x00"}},
		{a, []string{a}},
		{a + "b", []string{a, "b" + zeros[1:]}},
		{a + b[:31], []string{a, b[:31] + "\x00"}},
		{a + b, []string{a, b}},
		{a + b + "\x00", []string{a, b, zeros}},
		{zeros + a + zeros, []string{zeros, a, zeros}},
		{"\x00" + a, []string{"\x00" + a[1:], "a" + zeros[1:]}},
	}
	for _, c := range cases {
		if got := ssz.Pack(c.s); !slices.Equal(got, c.want) {
			t.Errorf("Pack of %s is %x, not %x", short(c.s), got, c.want)
		}
	}
}

// P8.1: Pack of all sizes: so many chunks, which are the text, one behind the other, and zeros.
func TestPackSizes(t *testing.T) {
	for size := range 1100 {
		s := made(size)
		chunks := ssz.Pack(s)
		if len(chunks) != (size+31)/32 {
			t.Errorf("Pack of %d bytes has %d chunks", size, len(chunks))
		}
		for i, c := range chunks {
			if len(c) != 32 {
				t.Errorf("Pack of %d bytes: the chunk %d has %d bytes", size, i, len(c))
			}
		}
		all := strings.Join(chunks, "")
		if !strings.HasPrefix(all, s) || strings.Trim(all[size:], "\x00") != "" {
			t.Errorf("Pack of %d bytes is %x", size, chunks)
		}
	}
}

// P8.1: the numbers' chunks: the named ones written out, and each bit.
func TestNumber(t *testing.T) {
	cases := map[uint64]string{
		0:                  zeros,
		1:                  "\x01" + zeros[1:],
		255:                "\xff" + zeros[1:],
		256:                "\x00\x01" + zeros[2:],
		258:                "\x02\x01" + zeros[2:],
		0x0807060504030201: "\x01\x02\x03\x04\x05\x06\x07\x08" + zeros[8:],
		1 << 63:            zeros[:7] + "\x80" + zeros[8:],
		greatest:           "\xff\xff\xff\xff\xff\xff\xff\xff" + zeros[8:],
	}
	for n, want := range cases {
		if got := ssz.Number(n); got != want {
			t.Errorf("Number(%d) is %x, not %x", n, got, want)
		}
	}
	for bit := range 64 {
		for _, n := range []uint64{1 << bit, 1<<bit - 1, greatest - 1<<bit, greatest << bit} {
			want := make([]byte, 32)
			binary.LittleEndian.PutUint64(want, n)
			if got := ssz.Number(n); got != string(want) {
				t.Errorf("Number(%d) is %x, not %x", n, got, want)
			}
		}
	}
}

// P8.1: a root with a length, and texts that are no root.
func TestMix(t *testing.T) {
	numbers := []uint64{0, 1, 255, 256, 258, 1 << 32, 1 << 63, greatest}
	for _, root := range []string{zeros, made(32), strings.Repeat("\xff", 32), plainSum("", "")} {
		for _, n := range numbers {
			length := make([]byte, 32)
			binary.LittleEndian.PutUint64(length, n)
			want := plainSum(root, string(length))
			if got, e := ssz.Mix(root, n); got != want || e != api.OK {
				t.Errorf("Mix(%x, %d) is %x, error %d, not %x", root, n, got, e, want)
			}
		}
	}
	for _, size := range []int{0, 1, 8, 16, 31, 33, 64, 65, 1 << 16} {
		for _, n := range numbers {
			if got, e := ssz.Mix(made(size), n); got != "" || e != api.ErrSsz {
				t.Errorf("Mix of %d bytes with %d is %x, error %d", size, n, got, e)
			}
		}
	}
}
