package pair

import (
	"slices"
	"strconv"
	"testing"

	"pharos/api"
)

// The bits behind a number's highest one are its digits but the first, the highest first.
func TestBehind(t *testing.T) {
	for _, n := range []uint64{0, 1, 2, 3, 4, 5, 6, 255, 256, api.Order - 1, api.Order, api.Order + 1, 1 << 62, 1<<63 - 1, 1 << 63, 1<<64 - 1} {
		var want []bool
		for _, digit := range strconv.FormatUint(n, 2)[1:] {
			want = append(want, digit == '1')
		}
		if got := slices.Collect(behind(n)); !slices.Equal(got, want) {
			t.Errorf("behind the highest bit of %d: %v", n, got)
		}
	}
}

// R7: the bits may be gone through again, and left early.
func TestBehindAgain(t *testing.T) {
	through := behind(0b11011)
	want := []bool{true, false, true, true}
	for most := 1; most <= len(want)+1; most++ {
		var got []bool
		for set := range through {
			got = append(got, set)
			if len(got) == most {
				break
			}
		}
		if !slices.Equal(got, want[:min(most, len(want))]) {
			t.Errorf("%d bits at most: %v", most, got)
		}
	}
}
