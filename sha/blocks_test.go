package sha

import (
	"strings"
	"testing"
)

// The length is told in bits, in eight bytes: from 2^29 bytes on, four don't hold it. A text of that size would make a slow test, so the length alone is held against what it must be.
func TestLengthOfMuch(t *testing.T) {
	cases := []struct {
		size int
		want string
	}{
		{0, "\x00\x00\x00\x00\x00\x00\x00\x00"},
		{1, "\x00\x00\x00\x00\x00\x00\x00\x08"},
		{32, "\x00\x00\x00\x00\x00\x00\x01\x00"},
		{1<<29 - 1, "\x00\x00\x00\x00\xff\xff\xff\xf8"},
		{1 << 29, "\x00\x00\x00\x01\x00\x00\x00\x00"},
		{1<<31 - 1, "\x00\x00\x00\x03\xff\xff\xff\xf8"},
	}
	for _, c := range cases {
		if got := lengthOf(c.size); got != c.want {
			t.Errorf("the length of %d bytes is %x, not %x", c.size, got, c.want)
		}
	}
}

// Going through blocks may be left early, and begun again.
func TestBlocksLeftEarly(t *testing.T) {
	all := blocks(strings.Repeat("a", 3*blockSize))
	for stop := 1; stop <= 4; stop++ {
		count := 0
		for range all {
			count++
			if count == stop {
				break
			}
		}
		if count != stop {
			t.Errorf("left at block %d, not at %d", count, stop)
		}
	}
	count := 0
	for range all {
		count++
	}
	if count != 4 {
		t.Errorf("three whole blocks' text has %d blocks, not 4", count)
	}
}
