package mint_test

import (
	"fmt"
	"testing"

	"pharos/api"
	"pharos/head"
	"pharos/light"
	"pharos/mint"
	"pharos/ssz"
)

// P15.2: the root to trust, and the Boot, of a slot, of secrets, of roots.
func TestBoot(t *testing.T) {
	for _, slot := range slots {
		name := fmt.Sprint("slot ", slot)
		expectBoot(t, name, slot, secrets(1), accounts, receipts)
		expectBoot(t, name+", of zeros", slot, secrets(40), zeros, zeros)
	}
	for name, l := range lists() {
		expectBoot(t, name, 5, l, receipts, accounts)
	}
}

// P15.2: the Boot's parts are what the words say, one by one; a store begins with it.
func TestBootParts(t *testing.T) {
	for _, slot := range slots {
		root, b, e := mint.Boot(slot, secrets(1), accounts, receipts)
		own, _ := head.Root(b.Light.Beacon)
		now, _ := mint.Committee(secrets(1))
		leaf, _ := head.CommitteeRoot(now)
		zero := ssz.Number(0)
		state, _ := ssz.Root([]string{zero, zero, zero, zero, leaf}, api.StateDepth)
		l, _ := mint.Light(slot, accounts, receipts, state)
		switch {
		case e != api.OK || root != own:
			t.Errorf("slot %d: error %d, the root is %x, not %x", slot, e, root, own)
		case told(b.Light) != told(l):
			t.Errorf("slot %d: the Light is %x, not %x", slot, b.Light, l)
		case told(b.Now) != told(now):
			t.Errorf("slot %d: the committee is %x, not %x", slot, b.Now, now)
		case len(b.Branch) != api.StateDepth || !ssz.Check(leaf, b.Branch, api.NowLeaf, state):
			t.Errorf("slot %d: the branch is %x", slot, b.Branch)
		}
		expectBegin(t, fmt.Sprint("slot ", slot), root, b)
	}
}

// expectBegin sees that a Boot begins a store.
func expectBegin(t *testing.T, name, root string, b api.Boot) {
	t.Helper()
	s, e := light.Begin(root, b)
	if e != api.OK || told(s.Final) != told(b.Light) || told(s.Now) != told(b.Now) {
		t.Errorf("%s: Begin answers error %d, and %x", name, e, s.Final)
	}
}

// P15.2: what is no committee, and what is no Light, is refused.
func TestNoBoot(t *testing.T) {
	many := append(secrets(1), secrets(17)...)
	for _, size := range []int{0, 1, 15, 17, 32} {
		expectNoBoot(t, fmt.Sprint(size, " secrets"), 5, many[:size], accounts, receipts)
	}
	expectNoBoot(t, "nil", 5, nil, accounts, receipts)
	for _, n := range noSecrets {
		for at := range api.Members {
			expectNoBoot(t, fmt.Sprint(n, " at ", at), 5, with(secrets(1), at, n), accounts, receipts)
		}
	}
	for _, s := range noRoots {
		name := fmt.Sprint(len(s), " bytes")
		expectNoBoot(t, name+", accounts", 5, secrets(1), s, receipts)
		expectNoBoot(t, name+", receipts", 5, secrets(1), accounts, s)
		expectNoBoot(t, name+", both", 0, secrets(1), s, s)
		expectNoBoot(t, name+", and no secrets", 5, nil, accounts, s)
	}
}
