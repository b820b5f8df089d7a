package trie

import (
	"slices"
	"testing"
)

// What entries are parted into may be gone through again, and left early, wherever.
func TestParted(t *testing.T) {
	entries := []entry{{path: "\x05\x00"}, {path: "\x05\x01"}, {path: "\x05\x01\x00"}, {path: "\x05\x0e"}, {path: "\x05\x0f\x0f"}, {path: "\x05\x0f\x0f\x0f"}}
	wantHalves, wantSizes := []byte{0, 1, 14, 15}, []int{1, 2, 1, 2}
	through := parted(entries, 1)
	for most := range 5 {
		var halves []byte
		var sizes []int
		for half, some := range through {
			if len(halves) == most {
				break
			}
			halves = append(halves, half)
			sizes = append(sizes, len(some))
		}
		if !slices.Equal(halves, wantHalves[:most]) || !slices.Equal(sizes, wantSizes[:most]) {
			t.Errorf("the first %d are %v, of %v entries", most, halves, sizes)
		}
	}
	for range parted(nil, 0) {
		t.Error("no entries are parted into some")
	}
}
