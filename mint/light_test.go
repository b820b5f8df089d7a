package mint_test

import (
	"fmt"
	"testing"

	"pharos/api"
	"pharos/head"
	"pharos/mint"
	"pharos/ssz"
)

// noRoots are texts that are none.
var noRoots = []string{"", "x", made(5, 3), zeros[:31], made(31, 3), made(33, 3), zeros + "\x00", made(64, 3), made(4000, 3)}

// P15.1: a Light of a slot, of three roots.
func TestLight(t *testing.T) {
	for _, slot := range slots {
		name := fmt.Sprint("slot ", slot)
		expectLight(t, name, slot, accounts, receipts, made(32, 3))
		expectLight(t, name+", of zeros", slot, zeros, zeros, zeros)
		expectLight(t, name+", all the same", slot, accounts, accounts, accounts)
	}
	for slot := range uint64(70) {
		expectLight(t, fmt.Sprint("slot ", slot), slot, receipts, accounts, zeros)
	}
}

// P15.1: each field is what the words say, one by one.
func TestLightFields(t *testing.T) {
	state := made(32, 3)
	for _, slot := range slots {
		l, e := mint.Light(slot, accounts, receipts, state)
		h, x := l.Beacon, l.Exec
		root, _ := head.ExecRoot(x)
		zero := ssz.Number(0)
		body, _ := ssz.Root([]string{ssz.Number(slot), zero, root}, api.BodyDepth)
		switch {
		case e != api.OK:
			t.Errorf("slot %d: error %d", slot, e)
		case x.Number != slot || x.Accounts != accounts || x.Receipts != receipts:
			t.Errorf("slot %d: the Exec is %x", slot, x)
		case h.Slot != slot || h.Proposer != slot%16 || h.Parent != ssz.Number(slot) || h.State != state:
			t.Errorf("slot %d: the header is %x", slot, h)
		case h.Body != body || !ssz.Check(root, l.Branch, api.ExecLeaf, h.Body) || len(l.Branch) != api.BodyDepth:
			t.Errorf("slot %d: Body is %x, the branch %x", slot, h.Body, l.Branch)
		case l.Branch[0] != zero:
			t.Errorf("slot %d: beside the Exec's root is %x", slot, l.Branch[0])
		}
	}
}

// P15.1: texts that are no roots are refused, each of the three.
func TestNoLight(t *testing.T) {
	state := made(32, 3)
	for _, s := range noRoots {
		for _, slot := range []uint64{0, 3, greatest} {
			name := fmt.Sprint(len(s), " bytes, slot ", slot)
			expectNoLight(t, name+", accounts", slot, s, receipts, state)
			expectNoLight(t, name+", receipts", slot, accounts, s, state)
			expectNoLight(t, name+", state", slot, accounts, receipts, s)
			expectNoLight(t, name+", both roots", slot, s, s, state)
			expectNoLight(t, name+", all", slot, s, s, s)
		}
	}
	// As many bytes in all as three roots have.
	expectNoLight(t, "31, 32 and 33 bytes", 3, made(31, 1), made(32, 1), made(33, 1))
	expectNoLight(t, "0, 32 and 64 bytes", 3, made(64, 1), "", made(32, 1))
}
