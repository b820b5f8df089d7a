package head_test

import (
	"fmt"
	"slices"
	"testing"

	"pharos/api"
	"pharos/head"
)

func expectHolds(t *testing.T, name string, l api.Light, want bool) {
	t.Helper()
	if got := head.Holds(l); got != want {
		t.Errorf("%s: Holds is %v", name, got)
	}
}

// lightOver is a Light whose Exec's root is the leaf i of a tree of that depth, with that leaf's branch.
func lightOver(depth, i int) api.Light {
	l := api.Light{Beacon: madeHeader(), Exec: madeExec()}
	above := plainExecRoot(l.Exec)
	for height := range depth {
		neighbour := made(32, 50+height)
		l.Branch = append(l.Branch, neighbour)
		if i>>height&1 == 0 {
			above = plainSum(above, neighbour)
		} else {
			above = plainSum(neighbour, above)
		}
	}
	l.Beacon.Body = above
	return l
}

// P13.1: a Light holds of the leaf 2 of a tree of the depth 2, and of no other leaf, of no other depth.
func TestHoldsAtItsLeaf(t *testing.T) {
	for depth := range 7 {
		for i := range 1 << depth {
			expectHolds(t, fmt.Sprint("the depth ", depth, ", the leaf ", i), lightOver(depth, i), depth == 2 && i == 2)
		}
	}
	expectHolds(t, "made", madeLight(), true)
	expectHolds(t, "nothing", api.Light{}, false)
}

// P13.1: of the edges of numbers too, a Light holds.
func TestHoldsNumbers(t *testing.T) {
	for _, n := range edgeNumbers() {
		l := madeLight()
		l.Beacon.Slot, l.Beacon.Proposer = n, n
		expectHolds(t, fmt.Sprint("the slot ", n), l, true)
		l.Exec.Number = n
		expectHolds(t, fmt.Sprint("another number: ", n), l, n == madeExec().Number)
		l.Branch = []string{zeros, zeros}
		l.Beacon.Body = plainSum(zeros, plainSum(plainExecRoot(l.Exec), zeros))
		expectHolds(t, fmt.Sprint("its number: ", n), l, true)
	}
}

// P13.1: no Light holds with one byte changed of what its branch proves, of the branch, of the Body.
func TestHoldsNoByteChanged(t *testing.T) {
	for at := range 32 {
		for _, bits := range []byte{1, 0x80, 0xff} {
			l := madeLight()
			l.Exec.Accounts = changed(l.Exec.Accounts, at, bits)
			expectHolds(t, fmt.Sprint("Accounts changed at ", at), l, false)
			l = madeLight()
			l.Exec.Receipts = changed(l.Exec.Receipts, at, bits)
			expectHolds(t, fmt.Sprint("Receipts changed at ", at), l, false)
			l = madeLight()
			l.Beacon.Body = changed(l.Beacon.Body, at, bits)
			expectHolds(t, fmt.Sprint("Body changed at ", at), l, false)
			for i := range 2 {
				l = madeLight()
				l.Branch[i] = changed(l.Branch[i], at, bits)
				expectHolds(t, fmt.Sprint("Branch ", i, " changed at ", at), l, false)
			}
		}
	}
	for bit := range 64 {
		l := madeLight()
		l.Exec.Number ^= 1 << bit
		expectHolds(t, fmt.Sprint("the bit ", bit, " of the number"), l, false)
	}
}

// P13.1: what the header tells beside its Body changes nothing, while it is right.
func TestHoldsRightHeader(t *testing.T) {
	for _, size := range sizes() {
		l := madeLight()
		l.Beacon.Parent = made(size, 70)
		expectHolds(t, fmt.Sprint("a Parent of ", size), l, size == 32)
		l = madeLight()
		l.Beacon.State = made(size, 70)
		expectHolds(t, fmt.Sprint("a State of ", size), l, size == 32)
		l = madeLight()
		l.Beacon.Body = (l.Beacon.Body + made(100, 70))[:size]
		expectHolds(t, fmt.Sprint("a Body of ", size), l, size == 32)
	}
}

// P13.1: no Light holds whose Exec is not right.
func TestHoldsRightExec(t *testing.T) {
	for _, size := range sizes() {
		l := madeLight()
		l.Exec.Accounts = (l.Exec.Accounts + made(100, 70))[:size]
		expectHolds(t, fmt.Sprint("Accounts of ", size), l, size == 32)
		l = madeLight()
		l.Exec.Receipts = (l.Exec.Receipts + made(100, 70))[:size]
		expectHolds(t, fmt.Sprint("Receipts of ", size), l, size == 32)
	}
	l := madeLight()
	both := l.Exec.Accounts + l.Exec.Receipts
	l.Exec.Accounts, l.Exec.Receipts = both[:31], both[31:]
	expectHolds(t, "Accounts and Receipts cut elsewhere", l, false)
	// Of an Exec that is not right an empty root would stand in the tree.
	l = api.Light{Beacon: madeHeader(), Branch: []string{zeros, zeros}}
	for _, leaf := range []string{"", zeros} {
		l.Beacon.Body = plainSum(zeros, plainSum(leaf, zeros))
		expectHolds(t, "an empty Exec", l, false)
	}
}

// P13.1: no Light holds with another branch.
func TestHoldsBranches(t *testing.T) {
	right := madeLight()
	first, second := right.Branch[0], right.Branch[1]
	for _, c := range []struct {
		name   string
		branch []string
	}{
		{"none", nil},
		{"none", []string{}},
		{"the first chunk", []string{first}},
		{"the second chunk", []string{second}},
		{"three", []string{first, second, zeros}},
		{"three", []string{first, second, ""}},
		{"three", []string{"", first, second}},
		{"exchanged", []string{second, first}},
		{"twice the first", []string{first, first}},
		{"the first of 31 bytes", []string{first[:31], second}},
		{"the first of 33 bytes", []string{first + "\x00", second}},
		{"the second of 31 bytes", []string{first, second[:31]}},
		{"the second of 33 bytes", []string{first, second + "\x00"}},
		{"cut elsewhere", []string{first[:31], first[31:] + second}},
		{"the first one empty", []string{"", second}},
		{"the second one empty", []string{first, ""}},
		{"of 70", slices.Repeat([]string{first}, 70)},
	} {
		l := right
		l.Branch = c.branch
		expectHolds(t, c.name, l, false)
	}
	// What comes out of chunks that are none, by mere sums, does not hold either.
	for _, size := range []int{0, 31, 33} {
		l := right
		l.Branch = []string{made(size, 1), second}
		l.Beacon.Body = plainSum(second, plainSum(plainExecRoot(l.Exec), l.Branch[0]))
		expectHolds(t, fmt.Sprint("a chunk of ", size, ", summed up"), l, false)
		l.Branch = []string{first, made(size, 1)}
		l.Beacon.Body = plainSum(l.Branch[1], plainSum(plainExecRoot(l.Exec), first))
		expectHolds(t, fmt.Sprint("a second chunk of ", size, ", summed up"), l, false)
	}
}
