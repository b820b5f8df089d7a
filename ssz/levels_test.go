package ssz

import (
	"slices"
	"strings"
	"testing"

	"pharos/sha"
)

// R7: levels may be gone through again, and left early.
func TestLevels(t *testing.T) {
	a, b, c := strings.Repeat("a", 32), strings.Repeat("b", 32), strings.Repeat("c", 32)
	ab, cz, zz := sha.Sum(a, b), sha.Sum(c, zeroChunk), sha.Sum(zeroChunk, zeroChunk)
	want := []level{
		{[]string{a, b, c}, zeroChunk},
		{[]string{ab, cz}, zz},
		{[]string{sha.Sum(ab, cz)}, sha.Sum(zz, zz)},
	}
	through := levels([]string{a, b, c}, 2)
	for most := range len(want) + 2 {
		count := 0
		for height, l := range through {
			if height != count || !slices.Equal(l.texts, want[height].texts) || l.behind != want[height].behind {
				t.Errorf("the level %d is told as %d: %v", count, height, l)
			}
			count++
			if count == most {
				break
			}
		}
		if most > 0 && count != min(most, len(want)) {
			t.Errorf("%d levels were told, not %d", count, most)
		}
	}
}

// The filler of chunks, written out, has a chunk's size.
func TestZeroChunk(t *testing.T) {
	if zeroChunk != strings.Repeat("\x00", chunkSize) {
		t.Errorf("the chunk of zeros has %d bytes", len(zeroChunk))
	}
}

// What fills a cut up does not land behind it.
func TestFilledUp(t *testing.T) {
	text := []byte(strings.Repeat("a", 40))
	for size := range chunkSize + 1 {
		if got := filledUp(text[:size:size]); got != strings.Repeat("a", size)+zeroChunk[size:] {
			t.Errorf("a cut of %d bytes is filled up to %q", size, got)
		}
	}
	if string(text) != strings.Repeat("a", 40) {
		t.Errorf("the text is %q", text)
	}
}
