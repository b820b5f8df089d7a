package light_test

import (
	"fmt"
	"slices"
	"testing"

	"pharos/api"
	"pharos/light"
)

func expectBegin(t *testing.T, name, root string, b api.Boot, want api.Store) {
	t.Helper()
	if got, e := light.Begin(root, b); e != api.OK || !sameStore(got, want) {
		t.Errorf("%s: Begin answers error %d, and\n%s, not\n%s", name, e, told(got), told(want))
	}
}

func expectNoBegin(t *testing.T, name, root string, b api.Boot, want api.Errno) {
	t.Helper()
	if got, e := light.Begin(root, b); e != want || !sameStore(got, api.Store{}) {
		t.Errorf("%s: Begin answers error %d, not %d, and %s", name, e, want, told(got))
	}
}

// ownRoot is that of a Boot's header.
func ownRoot(b api.Boot) string { return plainHeaderRoot(b.Light.Beacon) }

// P14.1: the store of a Boot that is right: its Light twice, its committee, and nothing else.
func TestBegin(t *testing.T) {
	for _, slot := range []uint64{0, 1, 5, 63, 64, 127, 128, 129, 1153, 1 << 63, greatest} {
		b := bootOf(slot, 1)
		expectBegin(t, fmt.Sprint("the slot ", slot), ownRoot(b), b, api.Store{Final: b.Light, Newest: b.Light, Now: b.Now})
	}
}

// P14.1: whether a committee's keys are points is not asked; Begin asks for nothing that chapter 13 does not.
func TestBeginOddKeys(t *testing.T) {
	c := api.Committee{Keys: slices.Repeat([]string{"fives"}, 16), Sum: "\x00\x00\x00\x00\x00"}
	leaves := []string{zeros, zeros, zeros, zeros, plainCommitteeRoot(c)}
	b := api.Boot{Light: lightOf(5, plainRoot(3, leaves...)), Now: c, Branch: plainBranch(3, 4, leaves...)}
	expectBegin(t, "keys that are no points", ownRoot(b), b, api.Store{Final: b.Light, Newest: b.Light, Now: c})
}

// P14.1: a Light that does not hold is told, though its header has the root.
func TestBeginHolds(t *testing.T) {
	for name, spoil := range map[string]func(l *api.Light){
		"another number":      func(l *api.Light) { l.Exec.Number++ },
		"other accounts":      func(l *api.Light) { l.Exec.Accounts = changed(l.Exec.Accounts, 31, 1) },
		"short receipts":      func(l *api.Light) { l.Exec.Receipts = l.Exec.Receipts[1:] },
		"another body":        func(l *api.Light) { l.Beacon.Body = changed(l.Beacon.Body, 0, 1) },
		"no branch":           func(l *api.Light) { l.Branch = nil },
		"a branch of 1":       func(l *api.Light) { l.Branch = l.Branch[:1] },
		"a branch of 3":       func(l *api.Light) { l.Branch = append(l.Branch, zeros) },
		"a branch's byte":     func(l *api.Light) { l.Branch[1] = changed(l.Branch[1], 5, 0x80) },
		"a parent of 31":      func(l *api.Light) { l.Beacon.Parent = l.Beacon.Parent[1:] },
		"a parent of 33":      func(l *api.Light) { l.Beacon.Parent += "\x00" },
		"a state of 31":       func(l *api.Light) { l.Beacon.State = l.Beacon.State[1:] },
		"a state of 33":       func(l *api.Light) { l.Beacon.State += "\x00" },
		"nothing in the Exec": func(l *api.Light) { l.Exec = api.Exec{} },
		"nothing":             func(l *api.Light) { *l = api.Light{} },
	} {
		b := bootOf(5, 1)
		spoil(&b.Light)
		root := ""
		if len(b.Light.Beacon.Parent) == 32 && len(b.Light.Beacon.State) == 32 {
			root = ownRoot(b)
		}
		expectNoBegin(t, name, root, b, api.ErrHead)
		expectNoBegin(t, name+", another root", made(32, 70), b, api.ErrHead)
		b.Branch = nil
		expectNoBegin(t, name+", no branch of the committee", root, b, api.ErrHead)
	}
	expectNoBegin(t, "nothing", "", api.Boot{}, api.ErrHead)
}

// P14.1: a committee that is not right is told.
func TestBeginCommittee(t *testing.T) {
	for name, spoil := range map[string]func(c *api.Committee){
		"no keys":       func(c *api.Committee) { c.Keys = nil },
		"15 keys":       func(c *api.Committee) { c.Keys = c.Keys[:15] },
		"17 keys":       func(c *api.Committee) { c.Keys = append(c.Keys, c.Keys[3]) },
		"a key of 4":    func(c *api.Committee) { c.Keys[15] = c.Keys[15][:4] },
		"a key of 6":    func(c *api.Committee) { c.Keys[0] += "\x00" },
		"an empty key":  func(c *api.Committee) { c.Keys[7] = "" },
		"a sum of 4":    func(c *api.Committee) { c.Sum = c.Sum[1:] },
		"a sum of 6":    func(c *api.Committee) { c.Sum += "\x00" },
		"no sum":        func(c *api.Committee) { c.Sum = "" },
		"nothing in it": func(c *api.Committee) { *c = api.Committee{} },
	} {
		b := bootOf(5, 1)
		spoil(&b.Now)
		expectNoBegin(t, name, ownRoot(b), b, api.ErrHead)
		expectNoBegin(t, name+", another root", zeros, b, api.ErrHead)
		b.Branch = nil
		expectNoBegin(t, name+", no branch", ownRoot(b), b, api.ErrHead)
	}
}

// P14.1: the trusted root is that of the header, byte by byte.
func TestBeginRoot(t *testing.T) {
	b := bootOf(5, 1)
	own := ownRoot(b)
	for at := range 32 {
		expectNoBegin(t, fmt.Sprint("another byte ", at), changed(own, at, 1<<(at%8)), b, api.ErrRoot)
	}
	for _, root := range []string{"", own[:31], own[1:], own + "\x00", "\x00" + own, own + own, zeros, b.Light.Beacon.Body, b.Light.Beacon.State, plainCommitteeRoot(b.Now), ownRoot(bootOf(6, 1))} {
		expectNoBegin(t, fmt.Sprintf("the root %x", root), root, b, api.ErrRoot)
	}
	b.Branch = b.Branch[:2]
	expectNoBegin(t, "another root, and another branch", zeros, b, api.ErrRoot)
}

// P14.1: the branch is of 3 chunks, and checks of the committee's root.
func TestBeginBranch(t *testing.T) {
	right := bootOf(5, 1)
	own, l := ownRoot(right), right.Branch
	for name, branch := range map[string][]string{
		"none":          nil,
		"empty":         {},
		"of 1":          l[:1],
		"of 2":          l[:2],
		"the last 2":    l[1:],
		"of 4":          append(slices.Clone(l), zeros),
		"of 4, 0 ahead": append([]string{zeros}, l...),
		"turned about":  {l[2], l[1], l[0]},
		"a short chunk": {l[0], l[1][:31], l[2]},
		"a long chunk":  {l[0], l[1], l[2] + "\x00"},
	} {
		b := right
		b.Branch = branch
		expectNoBegin(t, name, own, b, api.ErrBranch)
	}
	for i := range l {
		for at := range 32 {
			b := right
			b.Branch = with(l, i, changed(l[i], at, 0x10))
			expectNoBegin(t, fmt.Sprint("the chunk ", i, " changed at ", at), own, b, api.ErrBranch)
		}
	}
	b := right
	b.Now = committee(2)
	expectNoBegin(t, "another committee", own, b, api.ErrBranch)
	b.Now = committee(1)
	b.Now.Sum = committee(2).Sum
	expectNoBegin(t, "another sum", own, b, api.ErrBranch)
	b.Now = committee(1)
	b.Now.Keys[4], b.Now.Keys[5] = b.Now.Keys[5], b.Now.Keys[4]
	expectNoBegin(t, "keys exchanged", own, b, api.ErrBranch)
}

// P14.1: the committee stands at the leaf 4 of a tree of the depth 3, and nowhere else.
func TestBeginLeaf(t *testing.T) {
	c := committee(1)
	for depth := range 6 {
		for leaf := range 1 << depth {
			leaves := make([]string, 1<<depth)
			for i := range leaves {
				leaves[i] = made(32, 30+i)
			}
			leaves[leaf] = plainCommitteeRoot(c)
			b := api.Boot{Light: lightOf(5, plainRoot(depth, leaves...)), Now: c, Branch: plainBranch(depth, leaf, leaves...)}
			name := fmt.Sprint("the leaf ", leaf, " of the depth ", depth)
			if depth == 3 && leaf == 4 {
				expectBegin(t, name, ownRoot(b), b, api.Store{Final: b.Light, Newest: b.Light, Now: c})
			} else {
				expectNoBegin(t, name, ownRoot(b), b, api.ErrBranch)
			}
		}
	}
}
