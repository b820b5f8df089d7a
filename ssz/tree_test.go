package ssz_test

import (
	"encoding/hex"
	"math"
	"slices"
	"strings"
	"testing"

	"pharos/api"
	"pharos/ssz"
)

// P8.2: the chapter's examples, and trees written out.
func TestSmallTrees(t *testing.T) {
	a, b, c, d := strings.Repeat("a", 32), strings.Repeat("b", 32), strings.Repeat("c", 32), strings.Repeat("d", 32)
	ab, cd, cz, zz := plainSum(a, b), plainSum(c, d), plainSum(c, zeros), plainSum(zeros, zeros)
	roots := []struct {
		chunks []string
		depth  int
		want   string
	}{
		{nil, 0, zeros},
		{[]string{a}, 0, a},
		{nil, 1, zz},
		{[]string{a}, 1, plainSum(a, zeros)},
		{[]string{a, b}, 1, ab},
		{nil, 2, plainSum(zz, zz)},
		{[]string{a}, 2, plainSum(plainSum(a, zeros), zz)},
		{[]string{a, b}, 2, plainSum(ab, zz)},
		{[]string{a, b, c}, 2, plainSum(ab, cz)},
		{[]string{a, b, c, d}, 2, plainSum(ab, cd)},
		{[]string{b, a, d, c}, 2, plainSum(plainSum(b, a), plainSum(d, c))},
		{[]string{a, b, c}, 3, plainSum(plainSum(ab, cz), plainSum(zz, zz))},
	}
	for _, x := range roots {
		expectRoot(t, x.chunks, x.depth, x.want)
	}
	expectBranch(t, []string{a}, 0, 0, nil)
	expectBranch(t, nil, 0, 0, nil)
	expectBranch(t, []string{a, b}, 1, 0, []string{b})
	expectBranch(t, []string{a, b}, 1, 1, []string{a})
	expectBranch(t, []string{a}, 1, 0, []string{zeros})
	expectBranch(t, []string{a}, 1, 1, []string{a})
	for i, want := range [][]string{{b, cz}, {a, cz}, {zeros, ab}, {c, ab}} {
		expectBranch(t, []string{a, b, c}, 2, i, want)
	}
	for i, want := range [][]string{{b, zz}, {a, zz}, {zeros, ab}, {zeros, ab}} {
		expectBranch(t, []string{a, b}, 2, i, want)
	}
}

// P8.2: the roots of trees of no chunks, as published, of each depth.
func TestNoChunks(t *testing.T) {
	published := []string{
		"0000000000000000000000000000000000000000000000000000000000000000",
		"f5a5fd42d16a20302798ef6ed309979b43003d2320d9f0e8ea9831a92759fb4b",
		"db56114e00fdd4c1f85c892bf35ac9a89289aaecb1ebd0a96cde606a748b5d71",
		"c78009fdf07fc56a11f122370658a353aaa542ed63e44c4bc15ff4cd105ab33c",
		"536d98837f2dd165a55d5eeae91485954472d56f246df256bf3cae19352a123c",
		"9efde052aa15429fae05bad4d0b1d7c64da64d03d7a1854a588c2cb8430c0d30",
		"d88ddfeed400a8755596b21942c1497e114c302e6118290f91e6772976041fa1",
		"87eb0ddba57e35f6d286673802a4af5975e22506c7cf4c64bb6be5ee11527f2c",
		"26846476fd5fc54a5d43385167c95144f2643f533cc85bb9d16b782f8d7db193",
		"506d86582d252405b840018792cad2bf1259f1ef5aa5f887e13cb2f0094f51e1",
		"ffff0ad7e659772f9534c195c815efc4014ef1e1daed4404c06385d11192e92b",
	}
	var want []string
	for depth, digits := range published {
		root, err := hex.DecodeString(digits)
		if err != nil {
			t.Fatal(err)
		}
		for _, none := range [][]string{nil, {}, make([]string, 0, 3)} {
			expectRoot(t, none, depth, string(root))
			for _, i := range []int{0, 1<<depth - 1, 1 << depth / 2} {
				expectBranch(t, none, depth, min(i, 1<<depth-1), want)
			}
		}
		want = append(want, string(root))
	}
}

// counts are how many chunks are tried at a depth: the edges, and those near powers of two.
func counts(depth int) []int {
	most := min(1<<depth, 256)
	var l []int
	for _, n := range []int{0, 1, 2, 3, 4, 5, 7, 8, 9, 15, 16, 17, 31, 33, 64, 127, 128, 129, 255, 256, most - 1, most} {
		if n <= most && !slices.Contains(l, n) {
			l = append(l, n)
		}
	}
	return l
}

// leavesNear are the numbers of leaves that are tried: the first and the last one, those near the last chunk, some between.
func leavesNear(count, depth int) []int {
	last := 1<<depth - 1
	var l []int
	for _, i := range []int{0, 1, 2, count - 2, count - 1, count, count + 1, count + 2, last / 2, last/2 + 1, last / 3, last - 1, last} {
		if i >= 0 && i <= last && !slices.Contains(l, i) {
			l = append(l, i)
		}
	}
	return l
}

// P8.2: trees of each depth, of none, one, some and all chunks that may be, against those reckoned from the top down; no leaf's number below 0 or behind the last one.
func TestTrees(t *testing.T) {
	for depth := range 11 {
		for _, count := range counts(depth) {
			chunks := madeChunks(count)
			expectRoot(t, chunks, depth, plainRoot(chunks, depth))
			for _, i := range leavesNear(count, depth) {
				expectBranch(t, chunks, depth, i, plainBranch(chunks, depth, i))
			}
			for _, i := range []int{-1, -2, -1 << depth, 1 << depth, 1<<depth + 1, 2 << depth, 1 << 20, math.MaxInt, math.MinInt} {
				expectNoBranch(t, chunks, depth, i)
			}
		}
	}
}

// P8.2: every leaf of trees that are not too deep, and of a deep one with some chunks.
func TestAllLeaves(t *testing.T) {
	for _, x := range []struct{ count, depth int }{{1, 0}, {2, 1}, {1, 1}, {3, 2}, {5, 3}, {8, 3}, {11, 5}, {40, 6}, {100, 8}, {256, 8}, {200, 9}} {
		chunks := madeChunks(x.count)
		for i := range 1 << x.depth {
			expectBranch(t, chunks, x.depth, i, plainBranch(chunks, x.depth, i))
		}
	}
}

// P8.2: one chunk too many, of each depth, and far too many.
func TestTooManyChunks(t *testing.T) {
	for depth := range 11 {
		most := min(1<<depth, 256)
		for _, count := range []int{most + 1, most + 2, 2*most + 1, 257, 512, 1024, 1025, 5000} {
			if count > most {
				expectNoTree(t, madeChunks(count), depth)
			}
		}
	}
}

// P8.2: depths that are none, of no chunks, of one, of many.
func TestDepths(t *testing.T) {
	for _, depth := range []int{-1, -2, -10, -64, 11, 12, 31, 32, 62, 63, 64, 65, 1 << 20, math.MinInt, math.MaxInt, math.MinInt32, math.MaxInt32} {
		for _, count := range []int{0, 1, 2, 256, 257} {
			expectNoTree(t, madeChunks(count), depth)
			expectNoBranch(t, madeChunks(count), depth, math.MaxInt)
			expectNoBranch(t, madeChunks(count), depth, math.MinInt)
		}
	}
}

// P8.2: a text that is no chunk, wherever it stands.
func TestNoChunk(t *testing.T) {
	for depth := range 11 {
		for _, count := range []int{1, 2, 3, 16, 255, 256} {
			if count > 1<<depth {
				continue
			}
			chunks := madeChunks(count)
			for _, at := range []int{0, count / 2, count - 1} {
				for _, size := range []int{0, 1, 31, 33, 64, 1 << 12} {
					expectNoTree(t, with(chunks, at, made(size)), depth)
				}
				other := with(chunks, at, made(32))
				expectRoot(t, other, depth, plainRoot(other, depth))
			}
		}
	}
	expectNoTree(t, []string{made(31), made(33)}, 1)
	expectNoTree(t, slices.Repeat([]string{""}, 257), 11)
}

// P8.2: alike chunks, and chunks of zeros, are leaves as others are.
func TestAlikeChunks(t *testing.T) {
	for depth := range 6 {
		for count := range 1<<depth + 1 {
			for _, c := range []string{zeros, made(32), plainSum(zeros, zeros)} {
				chunks := slices.Repeat([]string{c}, count)
				expectRoot(t, chunks, depth, plainRoot(chunks, depth))
				last := 1<<depth - 1
				expectBranch(t, chunks, depth, last, plainBranch(chunks, depth, last))
			}
		}
		ended, bare := []string{zeros}, []string(nil)
		expectRoot(t, ended, depth, plainRoot(bare, depth))
	}
}

// P8.2: unlike chunks at each place, or at another one, have unlike roots.
func TestRootsUnlike(t *testing.T) {
	seen := map[string]int{}
	chunks := madeChunks(20)
	note := func(l []string) {
		root, e := ssz.Root(l, 5)
		seen[root]++
		if seen[root] > 1 || e != api.OK {
			t.Errorf("the root of %x was there, error %d", l, e)
		}
	}
	note(chunks)
	for at := range chunks {
		note(with(chunks, at, made(32)))
		note(with(chunks, at, changed(chunks[at], at, 1)))
		note(with(chunks, at, changed(chunks[at], 31-at, 0x80)))
		note(chunks[:at])
		for other := range at {
			note(with(with(chunks, at, chunks[other]), other, chunks[at]))
		}
	}
}
