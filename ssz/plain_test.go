package ssz_test

import (
	"crypto/sha256"
	"fmt"
	"slices"
	"strings"
	"testing"

	"pharos/api"
	"pharos/ssz"
)

const greatest = 1<<64 - 1

// zeros are 32 bytes 0.
var zeros = strings.Repeat("\x00", 32)

// plainSum is the sum of two texts, by the library's own.
func plainSum(first, second string) string {
	sum := sha256.Sum256([]byte(first + second))
	return string(sum[:])
}

// plainRoot is a tree's root, reckoned from the top down, every leaf by itself.
func plainRoot(chunks []string, depth int) string {
	if depth == 0 {
		if len(chunks) == 0 {
			return zeros
		}
		return chunks[0]
	}
	first, second := halved(chunks, depth)
	return plainSum(plainRoot(first, depth-1), plainRoot(second, depth-1))
}

// halved are the chunks of the first half of a tree's leaves, and of the second.
func halved(chunks []string, depth int) ([]string, []string) {
	half := min(len(chunks), 1<<(depth-1))
	return chunks[:half], chunks[half:]
}

// plainBranch is a leaf's branch, reckoned from the top down.
func plainBranch(chunks []string, depth, i int) []string {
	if depth == 0 {
		return nil
	}
	first, second := halved(chunks, depth)
	half := 1 << (depth - 1)
	if i < half {
		return append(plainBranch(first, depth-1, i), plainRoot(second, depth-1))
	}
	return append(plainBranch(second, depth-1, i-half), plainRoot(first, depth-1))
}

// plainTop is what comes out on top, reckoned by the digits of i, the highest one first.
func plainTop(leaf string, branch []string, i uint64) string {
	digits := fmt.Sprintf("%0*b", len(branch), i)
	if len(branch) == 0 {
		return leaf
	}
	last := len(branch) - 1
	var below uint64
	if last > 0 {
		fmt.Sscanf(digits[1:], "%b", &below)
	}
	if digits[0] == '0' {
		return plainSum(plainTop(leaf, branch[:last], below), branch[last])
	}
	return plainSum(branch[last], plainTop(leaf, branch[:last], below))
}

// leafOf is the leaf i of a tree.
func leafOf(chunks []string, i int) string {
	if i < len(chunks) {
		return chunks[i]
	}
	return zeros
}

// made is a text of so many bytes, none of them 0 and no two pieces of 32 alike.
func made(size int) string {
	b := make([]byte, size)
	for i := range b {
		b[i] = byte(1 + (i*7+i/32*11+i/8000*3)%255)
	}
	return string(b)
}

// madeChunks are so many chunks, no two alike.
func madeChunks(count int) []string {
	var chunks []string
	for i := range count {
		chunks = append(chunks, fmt.Sprintf("chunk %-26d", i))
	}
	return chunks
}

// short tells a text, cut, if it is long.
func short(s string) string {
	if len(s) > 40 {
		return fmt.Sprintf("%x.. (%d bytes)", s[:40], len(s))
	}
	return fmt.Sprintf("%x", s)
}

// changed is s with bits of one byte turned.
func changed(s string, at int, bits byte) string {
	b := []byte(s)
	b[at] ^= bits
	return string(b)
}

// with is l with another text at one place.
func with(l []string, at int, s string) []string {
	other := slices.Clone(l)
	other[at] = s
	return other
}

func expectRoot(t *testing.T, chunks []string, depth int, want string) {
	t.Helper()
	if got, e := ssz.Root(chunks, depth); got != want || e != api.OK {
		t.Errorf("Root of %d chunks, depth %d, is %x, error %d, not %x", len(chunks), depth, got, e, want)
	}
}

func expectBranch(t *testing.T, chunks []string, depth, i int, want []string) {
	t.Helper()
	if got, e := ssz.Branch(chunks, depth, i); !slices.Equal(got, want) || e != api.OK {
		t.Errorf("Branch of the leaf %d of %d chunks, depth %d, is %x, error %d, not %x", i, len(chunks), depth, got, e, want)
	}
}

// expectNoTree asks for the root, and for the branches of some leaves, of which there are none.
func expectNoTree(t *testing.T, chunks []string, depth int) {
	t.Helper()
	if got, e := ssz.Root(chunks, depth); got != "" || e != api.ErrSsz {
		t.Errorf("Root of %d texts, depth %d, is %x, error %d", len(chunks), depth, got, e)
	}
	for _, i := range []int{-1, 0, 1, 2, 255, 256, 1023, 1024} {
		expectNoBranch(t, chunks, depth, i)
	}
}

func expectNoBranch(t *testing.T, chunks []string, depth, i int) {
	t.Helper()
	if got, e := ssz.Branch(chunks, depth, i); len(got) != 0 || e != api.ErrSsz {
		t.Errorf("Branch of the leaf %d of %d texts, depth %d, is %x, error %d", i, len(chunks), depth, got, e)
	}
}

func expectCheck(t *testing.T, name, leaf string, branch []string, i uint64, root string, want bool) {
	t.Helper()
	if got := ssz.Check(leaf, branch, i, root); got != want {
		t.Errorf("%s: Check of %s, a branch of %d, the leaf %d, under %s is %v", name, short(leaf), len(branch), i, short(root), got)
	}
}
