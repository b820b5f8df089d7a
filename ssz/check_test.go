package ssz_test

import (
	"slices"
	"strings"
	"testing"

	"pharos/ssz"
)

// sizes are how long branches are tried: the edges, and some between.
func sizes() []int {
	return []int{0, 1, 2, 3, 9, 10, 11, 31, 32, 33, 62, 63, 64}
}

// numbersBelow are numbers below 2 to the size: the least and the greatest one, and some between.
func numbersBelow(size int) []uint64 {
	last := uint64(greatest)
	if size < 64 {
		last = 1<<size - 1
	}
	var l []uint64
	for _, n := range []uint64{0, 1, 2, last / 2, last/2 + 1, last / 3, last / 5, last - 1, last} {
		if n <= last && !slices.Contains(l, n) {
			l = append(l, n)
		}
	}
	return l
}

// P8.3: written out.
func TestCheckWrittenOut(t *testing.T) {
	a, b, c := strings.Repeat("a", 32), strings.Repeat("b", 32), strings.Repeat("c", 32)
	expectCheck(t, "a leaf that is the root", a, nil, 0, a, true)
	expectCheck(t, "a leaf that is the root", a, []string{}, 0, a, true)
	expectCheck(t, "a leaf that is the root", zeros, nil, 0, zeros, true)
	expectCheck(t, "a leaf that isn't", a, nil, 0, b, false)
	expectCheck(t, "a leaf that is the root, the one behind", a, nil, 1, a, false)
	expectCheck(t, "a leaf that is the root, the greatest", a, nil, greatest, a, false)
	expectCheck(t, "the first of two", a, []string{b}, 0, plainSum(a, b), true)
	expectCheck(t, "the second of two", a, []string{b}, 1, plainSum(b, a), true)
	expectCheck(t, "the first of two, as the second", a, []string{b}, 1, plainSum(a, b), false)
	expectCheck(t, "the second of two, as the first", a, []string{b}, 0, plainSum(b, a), false)
	expectCheck(t, "the one behind two", a, []string{b}, 2, plainSum(a, b), false)
	expectCheck(t, "the one behind that", a, []string{b}, 3, plainSum(b, a), false)
	for i, root := range []string{
		plainSum(plainSum(a, b), c),
		plainSum(plainSum(b, a), c),
		plainSum(c, plainSum(a, b)),
		plainSum(c, plainSum(b, a)),
	} {
		for n := range uint64(8) {
			expectCheck(t, "of four", a, []string{b, c}, n, root, n == uint64(i))
		}
	}
}

// P8.3: branches of all lengths, with the numbers that may go with them, and those behind, against a root reckoned by digits.
func TestCheckLengths(t *testing.T) {
	leaf := made(32)
	for size := range 65 {
		branch := madeChunks(size)
		for _, i := range numbersBelow(size) {
			root := plainTop(leaf, branch, i)
			expectCheck(t, "right", leaf, branch, i, root, true)
			for _, other := range numbersBelow(size) {
				expectCheck(t, "another number", leaf, branch, other, root, other == i)
			}
			for bit := range 64 {
				expectCheck(t, "a bit turned", leaf, branch, i^1<<bit, root, false)
			}
			if size < 64 {
				expectCheck(t, "2 to the length", leaf, branch, 1<<size, root, false)
				expectCheck(t, "as much and i", leaf, branch, i+1<<size, root, false)
				expectCheck(t, "i, and all above", leaf, branch, i|greatest<<size, root, false)
			}
		}
	}
}

// P8.3: 65 chunks and more are too many, whatever comes out.
func TestTooLongBranches(t *testing.T) {
	leaf := made(32)
	for _, size := range []int{65, 66, 127, 128, 129, 1000} {
		branch := madeChunks(size)
		for _, i := range []uint64{0, 1, 1 << 63, greatest} {
			expectCheck(t, "too long", leaf, branch, i, plainTop(leaf, branch, i), false)
			expectCheck(t, "too long, the root of 64", leaf, branch, i, plainTop(leaf, branch[:64], i), false)
		}
		expectCheck(t, "64 of them", leaf, branch[:64], greatest, plainTop(leaf, branch[:64], greatest), true)
		expectCheck(t, "too long, of no chunks", leaf, make([]string, size), 0, leaf, false)
	}
	expectCheck(t, "very long", leaf, make([]string, 1<<20), 0, leaf, false)
}

// wrongSizes are lengths of texts that are no chunks.
func wrongSizes() []int { return []int{0, 1, 31, 33, 63, 64, 65, 1 << 16} }

// P8.3: texts that are no chunks, though what is reckoned from them comes out.
func TestCheckNoChunks(t *testing.T) {
	leaf := made(32)
	for _, size := range []int{0, 1, 2, 10, 63, 64} {
		branch := madeChunks(size)
		for _, i := range numbersBelow(size) {
			root := plainTop(leaf, branch, i)
			for _, wrong := range wrongSizes() {
				text := made(wrong)
				expectCheck(t, "a leaf that is none", text, branch, i, plainTop(text, branch, i), false)
				expectCheck(t, "a root that is none", leaf, branch, i, text, false)
				for _, at := range []int{0, size / 2, size - 1} {
					if at >= 0 && at < size {
						other := with(branch, at, text)
						expectCheck(t, "a neighbour that is none", leaf, other, i, plainTop(leaf, other, i), false)
						expectCheck(t, "a neighbour that is none, no root", leaf, other, i, "", false)
						expectCheck(t, "a neighbour that is none, what is below as the root", leaf, other, i, plainTop(leaf, branch[:at], i&(1<<at-1)), false)
					}
				}
			}
			expectCheck(t, "a root cut", leaf, branch, i, root[:31], false)
			expectCheck(t, "a root cut", leaf, branch, i, root[1:], false)
			expectCheck(t, "a root and more", leaf, branch, i, root+"\x00", false)
		}
	}
	for _, wrong := range wrongSizes() {
		text := made(wrong)
		expectCheck(t, "no chunk, as the leaf and the root", text, nil, 0, text, false)
		expectCheck(t, "no chunks at all", text, []string{text}, 0, plainSum(text, text), false)
	}
	// Two texts whose sizes make up for each other have the sum of two chunks.
	two := made(64)
	for _, cut := range []int{0, 1, 31, 33, 63, 64} {
		expectCheck(t, "cut elsewhere", two[:cut], []string{two[cut:]}, 0, plainSum(two, ""), false)
		expectCheck(t, "cut elsewhere", two[cut:], []string{two[:cut]}, 1, plainSum(two, ""), false)
	}
	expectCheck(t, "cut in the middle", two[:32], []string{two[32:]}, 0, plainSum(two, ""), true)
}

// P8.3: a branch with a byte changed, a chunk more or less, two exchanged; another leaf, another root: all at the named lengths.
func TestCheckChanged(t *testing.T) {
	leaf := made(32)
	for _, size := range sizes() {
		branch := madeChunks(size)
		for _, i := range numbersBelow(size) {
			root := plainTop(leaf, branch, i)
			no := func(name, leaf string, branch []string, root string) {
				t.Helper()
				expectCheck(t, name, leaf, branch, i, root, false)
			}
			for at := range 32 {
				flip := byte(1) << (at % 8)
				no("another leaf", changed(leaf, at, flip), branch, root)
				no("another root", leaf, branch, changed(root, at, flip))
			}
			for at := range size + 1 {
				for _, more := range []string{zeros, leaf, root, made(64)[32:]} {
					no("one more", leaf, slices.Insert(slices.Clone(branch), at, more), root)
				}
				if at == size {
					break
				}
				no("one less", leaf, slices.Delete(slices.Clone(branch), at, at+1), root)
				no("a byte changed", leaf, with(branch, at, changed(branch[at], (at*5+size)%32, 0x10)), root)
				no("zeros", leaf, with(branch, at, zeros), root)
				for _, other := range []int{0, at / 2, at - 1} {
					if other >= 0 && other < at {
						no("exchanged", leaf, with(with(branch, at, branch[other]), other, branch[at]), root)
					}
				}
				no("exchanged with the leaf", branch[at], with(branch, at, leaf), root)
			}
			if size > 1 {
				no("turned about", leaf, turned(branch), root)
			}
		}
	}
}

// turned is l, the last one first.
func turned(l []string) []string {
	other := slices.Clone(l)
	slices.Reverse(other)
	return other
}

// P8.3: exchanged with its first neighbour, a leaf is the other one of the two.
func TestCheckNeighbour(t *testing.T) {
	leaf := made(32)
	for _, size := range sizes()[1:] {
		branch := madeChunks(size)
		for _, i := range numbersBelow(size) {
			root := plainTop(leaf, branch, i)
			expectCheck(t, "the neighbour", branch[0], with(branch, 0, leaf), i^1, root, true)
		}
	}
}

// P8.3: all numbers with all lengths to 8: as many come out as may be.
func TestCheckAllNumbers(t *testing.T) {
	leaf := made(32)
	for size := range 9 {
		branch := madeChunks(size)
		tops := map[string]int{}
		for i := range uint64(1) << size {
			root := plainTop(leaf, branch, i)
			tops[root]++
			for n := range uint64(2) << size {
				if ssz.Check(leaf, branch, n, root) != (n == i) {
					t.Errorf("%d chunks: Check of the leaf %d under the root of %d", size, n, i)
				}
			}
		}
		if len(tops) != 1<<size {
			t.Errorf("%d chunks have %d roots", size, len(tops))
		}
	}
}
