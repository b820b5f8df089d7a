package ssz_test

import (
	"slices"
	"strings"
	"sync"
	"testing"
	"unsafe"

	"pharos/api"
	"pharos/ssz"
)

// tree is what was answered of one.
type tree struct {
	chunks []string
	depth  int
	root   string
}

func treeOf(t *testing.T, chunks []string, depth int) tree {
	t.Helper()
	root, e := ssz.Root(chunks, depth)
	if e != api.OK {
		t.Fatalf("Root of %d chunks, depth %d: error %d", len(chunks), depth, e)
	}
	return tree{chunks, depth, root}
}

func (x tree) branch(t *testing.T, i int) []string {
	t.Helper()
	branch, e := ssz.Branch(x.chunks, x.depth, i)
	if e != api.OK {
		t.Fatalf("Branch of the leaf %d, depth %d: error %d", i, x.depth, e)
	}
	return branch
}

// P8.4: the branches of trees check, of their leaves, those behind the last chunk too; and of their leaves alone.
func TestBranchesCheck(t *testing.T) {
	for depth := range 11 {
		for _, count := range counts(depth) {
			x := treeOf(t, madeChunks(count), depth)
			for _, i := range leavesNear(count, depth) {
				checks(t, x, i)
			}
		}
	}
	for _, size := range []struct{ count, depth int }{{7, 3}, {16, 4}, {33, 6}, {130, 8}} {
		x := treeOf(t, madeChunks(size.count), size.depth)
		for i := range 1 << size.depth {
			checks(t, x, i)
		}
	}
}

// checks holds the branch of a leaf against it, and against others.
func checks(t *testing.T, x tree, i int) {
	t.Helper()
	leaf, branch := leafOf(x.chunks, i), x.branch(t, i)
	n := uint64(i)
	expectCheck(t, "its leaf", leaf, branch, n, x.root, true)
	expectCheck(t, "another leaf", made(32), branch, n, x.root, false)
	expectCheck(t, "a bit of the leaf", changed(leaf, i%32, 1), branch, n, x.root, false)
	expectCheck(t, "the number behind all", leaf, branch, 1<<x.depth, x.root, false)
	expectCheck(t, "the number with more above", leaf, branch, n+1<<x.depth, x.root, false)
	expectCheck(t, "another root", leaf, branch, n, plainSum(x.root, ""), false)
	expectCheck(t, "one chunk more", leaf, append(slices.Clone(branch), zeros), n, x.root, false)
	for height := range branch {
		// What stands above the leaf is what the rest of the branch checks of.
		above := plainTop(leaf, branch[:height], n&(1<<height-1))
		expectCheck(t, "what stands above", above, branch[height:], n>>height, x.root, true)
		expectCheck(t, "a chunk less", leaf, slices.Delete(slices.Clone(branch), height, height+1), n>>1, x.root, false)
		// Of another number the same comes out only where the texts are alike: two halves of zeros.
		alike := above == branch[height]
		expectCheck(t, "the leaf across", leaf, branch, n^1<<height, x.root, alike)
	}
}

// P8.4: the branch of a leaf checks of another number only if that leaf, and its branch, are the same.
func TestOtherLeavesBranches(t *testing.T) {
	for _, size := range []struct{ count, depth int }{{1, 0}, {1, 1}, {2, 1}, {2, 2}, {3, 2}, {4, 2}, {5, 3}, {8, 3}, {9, 5}, {32, 5}, {50, 6}} {
		x := treeOf(t, madeChunks(size.count), size.depth)
		for i := range 1 << size.depth {
			for j := range 1 << size.depth {
				own, other := x.branch(t, i), x.branch(t, j)
				want := leafOf(x.chunks, i) == leafOf(x.chunks, j) && slices.Equal(own, other)
				expectCheck(t, "another leaf's", leafOf(x.chunks, i), own, uint64(j), x.root, want)
				expectCheck(t, "another's branch", leafOf(x.chunks, i), other, uint64(i), x.root, slices.Equal(own, other))
			}
		}
	}
}

// nodesOf are all texts that stand in a tree, and some that don't.
func nodesOf(x tree) []string {
	var l []string
	var note func(chunks []string, depth int)
	note = func(chunks []string, depth int) {
		if s := plainRoot(chunks, depth); !slices.Contains(l, s) {
			l = append(l, s)
		}
		if depth > 0 {
			first, second := halved(chunks, depth)
			note(first, depth-1)
			note(second, depth-1)
		}
	}
	note(x.chunks, x.depth)
	return append(l, made(32), plainSum("", ""))
}

// P8.4: of small trees all rows of their texts, as a leaf and a branch, with all numbers: those alone check that are a leaf and its branch.
func TestAllRows(t *testing.T) {
	for _, size := range []struct{ count, depth int }{{0, 1}, {1, 1}, {2, 1}, {0, 2}, {1, 2}, {2, 2}, {3, 2}, {4, 2}, {1, 3}, {3, 3}, {5, 3}} {
		x := treeOf(t, madeChunks(size.count), size.depth)
		nodes := nodesOf(x)
		checked := 0
		row := make([]string, size.depth+1)
		var fill func(at int)
		fill = func(at int) {
			if at < len(row) {
				for _, row[at] = range nodes {
					fill(at + 1)
				}
				return
			}
			for i := range uint64(1) << size.depth {
				if ssz.Check(row[0], row[1:], i, x.root) {
					checked++
					own := plainBranch(x.chunks, x.depth, int(i))
					if row[0] != leafOf(x.chunks, int(i)) || !slices.Equal(row[1:], own) {
						t.Errorf("%d chunks, depth %d: %x checks as the leaf %d", size.count, size.depth, row, i)
					}
				}
			}
		}
		fill(0)
		if checked != 1<<size.depth {
			t.Errorf("%d chunks, depth %d: %d rows check", size.count, size.depth, checked)
		}
	}
}

// P8.4: by Pack, Root, Branch and Check the cut of a text is proven, and no other.
func TestPackedText(t *testing.T) {
	for _, size := range []int{0, 1, 31, 32, 33, 64, 65, 1000, 8191, 8192} {
		chunks := ssz.Pack(made(size))
		for _, depth := range []int{8, 9, 10} {
			x := treeOf(t, chunks, depth)
			for _, i := range leavesNear(len(chunks), depth) {
				expectCheck(t, "a cut", leafOf(chunks, i), x.branch(t, i), uint64(i), x.root, true)
				expectCheck(t, "another cut", made(33)[1:], x.branch(t, i), uint64(i), x.root, false)
			}
		}
	}
	expectNoTree(t, ssz.Pack(made(8193)), 10)
}

// over is a text laid over bytes that may be written into.
func over(b []byte) string { return unsafe.String(unsafe.SliceData(b), len(b)) }

// R3: what is answered is new memory: texts laid over bytes that are written into later stay as they were.
func TestNothingKept(t *testing.T) {
	first := func(s string, e api.Errno) []string { return []string{s} }
	answers := map[string]func(a, b string) []string{
		"Pack":              func(a, b string) []string { return ssz.Pack(a) },
		"Root of one":       func(a, b string) []string { return first(ssz.Root([]string{a}, 0)) },
		"Root":              func(a, b string) []string { return first(ssz.Root([]string{a, b}, 2)) },
		"Mix":               func(a, b string) []string { return first(ssz.Mix(a, 5)) },
		"Branch":            func(a, b string) []string { l, _ := ssz.Branch([]string{a, b}, 1, 0); return l },
		"Branch of another": func(a, b string) []string { l, _ := ssz.Branch([]string{a, b, a}, 3, 3); return l },
	}
	for name, answer := range answers {
		a, b := []byte(made(32)), []byte(made(64)[32:])
		before := string(a) + string(b)
		got := answer(over(a), over(b))
		if string(a)+string(b) != before {
			t.Errorf("%s wrote into what it was handed", name)
		}
		want := answer(strings.Clone(before[:32]), strings.Clone(before[32:]))
		for i := range a {
			a[i], b[i] = 0xee, 0xee
		}
		if !slices.Equal(got, want) || len(got) == 0 {
			t.Errorf("%s is %x, not %x: it kept what it was handed", name, got, want)
		}
	}
}

// writeOver writes into all of a list, and into its spare room.
func writeOver(l []string) {
	for i := range l[:cap(l)] {
		l[:cap(l)][i] = "written"
	}
}

// R3: lists that are handed in are not written into, nor their spare room; lists that are answered are new, spare room too.
func TestListsApart(t *testing.T) {
	room := madeChunks(12)
	before := slices.Clone(room)
	for count := range 8 {
		chunks := room[:count]
		root, _ := ssz.Root(chunks, 3)
		branch, _ := ssz.Branch(chunks, 3, count)
		again, _ := ssz.Branch(chunks, 3, count)
		ssz.Check(leafOf(chunks, count), room[:3], 1, root)
		if !slices.Equal(room, before) {
			t.Fatalf("%d chunks were written into", count)
		}
		writeOver(branch)
		if !slices.Equal(room, before) || !slices.Equal(again, plainBranch(chunks, 3, count)) {
			t.Errorf("the branch of the leaf %d shares memory", count)
		}
	}
	one, two := ssz.Pack(made(100)), ssz.Pack(made(100))
	writeOver(one)
	if !slices.Equal(two, ssz.Pack(made(100))) {
		t.Error("what Pack answers shares memory")
	}
}

// R3: a branch that is handed in keeps its spare room.
func TestCheckWritesNothing(t *testing.T) {
	room := madeChunks(70)
	before := slices.Clone(room)
	for _, size := range []int{0, 1, 10, 64, 65} {
		root := plainTop(made(32), room[:size], 0)
		expectCheck(t, "of a longer list", made(32), room[:size], 0, root, size < 65)
	}
	if !slices.Equal(room, before) {
		t.Error("Check wrote into a branch")
	}
}

// R4: what is answered hangs on the arguments alone; calls side by side don't meet.
func TestSideBySide(t *testing.T) {
	chunks := madeChunks(64)
	var workers sync.WaitGroup
	for shift := range 4 {
		workers.Go(func() {
			for round := range 40 {
				count := (round*3 + shift*17) % 65
				x := treeOf(t, chunks[:count], 6)
				expectRoot(t, chunks[:count], 6, plainRoot(chunks[:count], 6))
				checks(t, x, round)
				expectNoTree(t, chunks[:count], 11)
			}
		})
	}
	workers.Wait()
}

// R5: great texts are packed, too.
func TestGreat(t *testing.T) {
	text := made(1<<24 + 1)
	chunks := ssz.Pack(text)
	if len(chunks) != 1<<19+1 || strings.Join(chunks, "") != text+zeros[1:] {
		t.Errorf("Pack of %d bytes has %d chunks", len(text), len(chunks))
	}
	expectNoTree(t, chunks, 10)
	expectCheck(t, "great", text, nil, 0, text, false)
	expectCheck(t, "great", made(32), []string{text}, 0, made(32), false)
}
