package curve

import (
	"slices"
	"strconv"
	"testing"

	"pharos/api"
)

// The bits of a number are its digits, the highest first, without noughts ahead.
func TestDigits(t *testing.T) {
	for _, n := range []uint64{0, 1, 2, 3, 4, 5, 6, 255, 256, api.Order - 1, api.Order, api.Order + 1, 1 << 62, 1<<63 - 1, 1 << 63, 1<<64 - 1} {
		var want []bool
		if n > 0 {
			for _, digit := range strconv.FormatUint(n, 2) {
				want = append(want, digit == '1')
			}
		}
		if got := slices.Collect(digits(n)); !slices.Equal(got, want) {
			t.Errorf("the digits of %d are %v", n, got)
		}
	}
}

// R7: digits may be gone through again, and left early.
func TestDigitsAgain(t *testing.T) {
	through := digits(0b1011)
	want := []bool{true, false, true, true}
	for most := 1; most <= len(want)+1; most++ {
		var got []bool
		for set := range through {
			got = append(got, set)
			if len(got) == most {
				break
			}
		}
		if !slices.Equal(got, want[:min(most, len(want))]) {
			t.Errorf("%d digits at most: %v", most, got)
		}
	}
}
