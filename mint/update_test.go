package mint_test

import (
	"fmt"
	"slices"
	"testing"

	"pharos/api"
	"pharos/head"
	"pharos/light"
	"pharos/mint"
	"pharos/sign"
	"pharos/ssz"
)

// cases are plans, final and not, with a next committee and without.
func cases() map[string]api.Plan {
	all := map[string]api.Plan{}
	for _, final := range []uint64{0, 7} {
		for _, next := range [][]uint64{nil, {}, secrets(21)} {
			p := plan()
			p.Final, p.Next = final, next
			all[fmt.Sprint("final ", final, ", next ", len(next), next == nil)] = p
		}
	}
	return all
}

// P15.2: the update of a plan.
func TestUpdate(t *testing.T) {
	for name, p := range cases() {
		expectUpdate(t, name, p)
		for _, slot := range slots {
			p.Seen, p.Slot = slot, slot+1
			expectUpdate(t, fmt.Sprint(name, ", seen ", slot), p)
			p.Seen, p.Slot = slot, 0
			expectUpdate(t, fmt.Sprint(name, ", seen ", slot, ", slot 0"), p)
		}
		p.Accounts, p.Receipts = zeros, accounts
		expectUpdate(t, name+", other roots", p)
	}
	// Whether slots follow each other is not asked of a plan.
	for _, slot := range slots {
		p := plan()
		p.Final = slot
		expectUpdate(t, fmt.Sprint("final ", slot), p)
	}
	for name, l := range lists() {
		p := plan()
		p.Now = l
		expectUpdate(t, "now "+name, p)
		p.Now, p.Next = secrets(1), l
		expectUpdate(t, "next "+name, p)
		p.Now = l
		expectUpdate(t, "now and next "+name, p)
	}
}

// P15.2: which of the branches of 3 and of 5 are there, and what stands in the leaves.
func TestUpdateLeaves(t *testing.T) {
	for name, p := range cases() {
		u, e := mint.Update(p)
		zero := ssz.Number(0)
		leaves := []string{zero, zero, zero, zero, zero, zero}
		now, _ := mint.Committee(p.Now)
		leaves[api.NowLeaf], _ = head.CommitteeRoot(now)
		if p.Final != 0 {
			leaves[api.FinalLeaf], _ = head.Root(u.Final.Beacon)
		}
		if len(p.Next) > 0 {
			leaves[api.NextLeaf], _ = head.CommitteeRoot(u.Next)
		}
		state, _ := ssz.Root(leaves, api.StateDepth)
		if e != api.OK || u.Seen.Beacon.State != state {
			t.Errorf("%s: error %d, the state is %x, not %x", name, e, u.Seen.Beacon.State, state)
		}
		expectBranch(t, name+", Final", p.Final != 0, u.FinalBranch, leaves[api.FinalLeaf], api.FinalLeaf, state)
		expectBranch(t, name+", Next", len(p.Next) > 0, u.NextBranch, leaves[api.NextLeaf], api.NextLeaf, state)
	}
}

// expectBranch sees that there is a branch of a leaf under a state, or none.
func expectBranch(t *testing.T, name string, there bool, branch []string, leaf string, at uint64, state string) {
	t.Helper()
	switch {
	case !there:
		if branch != nil {
			t.Errorf("%s: there is a branch, %x", name, branch)
		}
	case len(branch) != api.StateDepth || !ssz.Check(leaf, branch, at, state):
		t.Errorf("%s: the branch %x does not check", name, branch)
	}
}

// P15.2: Final and Next are there, if the plan has them; else they are empty.
func TestUpdateParts(t *testing.T) {
	for name, p := range cases() {
		u, _ := mint.Update(p)
		final, next := api.Light{}, api.Committee{}
		if p.Final != 0 {
			final, _ = mint.Light(p.Final, p.Accounts, p.Receipts, zeros)
		}
		if len(p.Next) > 0 {
			next, _ = mint.Committee(p.Next)
		}
		seen, _ := mint.Light(p.Seen, p.Accounts, p.Receipts, u.Seen.Beacon.State)
		if told(u.Final) != told(final) || told(u.Next) != told(next) || told(u.Seen) != told(seen) {
			t.Errorf("%s: Final is %x, Next %x, Seen %x", name, u.Final, u.Next, u.Seen)
		}
	}
}

// P15.2: Bits and Slot are the plan's, and Sig is that of those that sign: of the sixteen lowest bits.
func TestUpdateBits(t *testing.T) {
	bits := []uint64{0, 1, 2, 3, 1 << 7, 1 << 14, 1 << 15, 0xaaaa, 0x5555, bitsOf(10), bitsOf(11), everyone - 1, everyone,
		1 << 16, 1<<16 + 1, 1 << 17, 1 << 31, 1 << 32, 1 << 48, 1 << 63, 1<<63 + 3, greatest - everyone, greatest - 1, greatest}
	for i := range api.Members {
		bits = append(bits, 1<<i, everyone-1<<i)
	}
	for _, b := range bits {
		name := fmt.Sprintf("bits %x", b)
		p := plan()
		p.Bits = b
		expectUpdate(t, name, p)
		u, _ := mint.Update(p)
		if u.Bits != b || u.Slot != p.Slot {
			t.Errorf("%s: Bits are %x, Slot is %d", name, u.Bits, u.Slot)
		}
		expectSigned(t, name, p, u)
	}
}

// bitsOf are those of so many members, the first ones.
func bitsOf(many int) uint64 { return 1<<many - 1 }

// expectSigned sees that the keys of those that sign, and these alone, have signed.
func expectSigned(t *testing.T, name string, p api.Plan, u api.Update) {
	t.Helper()
	text := plainText(u.Seen.Beacon, p.Slot)
	var keys, sigs []string
	for i, secret := range p.Now {
		if p.Bits&(1<<i) != 0 {
			key, _ := sign.Key(secret)
			sig, _ := sign.Sign(secret, text)
			keys, sigs = append(keys, key), append(sigs, sig)
		}
	}
	if sum, _ := sign.Sum(sigs); u.Sig != sum {
		t.Errorf("%s: Sig is %x, not %x", name, u.Sig, sum)
	}
	if sign.All(keys, text, u.Sig) != (len(keys) > 0) {
		t.Errorf("%s: Sig %x, of %d keys", name, u.Sig, len(keys))
	}
}

// P15.2: of members that are Inf together the signature is that of Inf.
func TestUpdateSigInf(t *testing.T) {
	p := plan()
	p.Now = slices.Repeat([]uint64{1, order - 1}, 8)
	expectUpdate(t, "Inf together", p)
	if u, _ := mint.Update(p); u.Sig != zeros[:5] {
		t.Errorf("Inf together: Sig is %x", u.Sig)
	}
	p.Now = secrets(1)
	p.Bits = 0
	if u, _ := mint.Update(p); u.Sig != zeros[:5] {
		t.Errorf("nobody signs: Sig is %x", u.Sig)
	}
}

// P15.2: the text that is signed hangs on Slot: the number in it is another one behind 128 slots, and behind 256, and in the slot 0 it is the first one.
func TestUpdateForks(t *testing.T) {
	for _, f := range []struct{ slot, fork uint64 }{
		{0, 7}, {1, 7}, {2, 7}, {127, 7}, {128, 7},
		{129, 8}, {130, 8}, {255, 8}, {256, 8},
		{257, 9}, {258, 9}, {384, 9}, {385, 9}, {513, 9}, {1153, 9}, {1 << 32, 9}, {1 << 63, 9}, {greatest - 127, 9}, {greatest, 9},
	} {
		p := plan()
		p.Slot, p.Seen = f.slot, 5
		u, e := mint.Update(p)
		text := plainSum(plainHeaderRoot(u.Seen.Beacon), plainNumber(f.fork))
		if want := plainSig(p.Now, p.Bits, text); e != api.OK || u.Sig != want {
			t.Errorf("slot %d: error %d, Sig is %x, not %x", f.slot, e, u.Sig, want)
		}
	}
}

// P15.2: what is no plan is refused.
func TestNoUpdate(t *testing.T) {
	many := append(secrets(1), secrets(17)...)
	for name, good := range cases() {
		for _, size := range []int{0, 1, 15, 17, 32} {
			p := good
			p.Now = many[:size]
			expectNoUpdate(t, fmt.Sprint(name, ": now ", size), p)
			p.Now, p.Next = good.Now, many[:size]
			if size > 0 {
				expectNoUpdate(t, fmt.Sprint(name, ": next ", size), p)
			}
		}
		for _, n := range noSecrets {
			for _, at := range []int{0, 8, 15} {
				p := good
				p.Now = with(secrets(1), at, n)
				expectNoUpdate(t, fmt.Sprint(name, ": now ", n, " at ", at), p)
				// Though it doesn't sign.
				p.Bits = everyone - 1<<at
				expectNoUpdate(t, fmt.Sprint(name, ": now ", n, " at ", at, " who doesn't sign"), p)
				p.Now, p.Next = good.Now, with(secrets(1), at, n)
				expectNoUpdate(t, fmt.Sprint(name, ": next ", n, " at ", at), p)
			}
		}
		for _, s := range noRoots {
			p := good
			p.Accounts = s
			expectNoUpdate(t, fmt.Sprint(name, ": accounts of ", len(s)), p)
			p.Receipts = s
			expectNoUpdate(t, fmt.Sprint(name, ": both of ", len(s)), p)
			p.Accounts = accounts
			expectNoUpdate(t, fmt.Sprint(name, ": receipts of ", len(s)), p)
		}
	}
	expectNoUpdate(t, "the empty plan", api.Plan{})
	expectNoUpdate(t, "a plan of no secrets", api.Plan{Accounts: accounts, Receipts: receipts, Next: secrets(1)})
}

// beginning is the store that a Boot of a slot begins.
func beginning(t *testing.T, slot uint64, secrets []uint64) api.Store {
	t.Helper()
	root, b, _ := mint.Boot(slot, secrets, accounts, receipts)
	s, e := light.Begin(root, b)
	if e != api.OK {
		t.Fatalf("slot %d: Begin answers error %d", slot, e)
	}
	return s
}

// expectCheck sees what is told of a plan's update by a store.
func expectCheck(t *testing.T, name string, s api.Store, p api.Plan, now uint64, want api.Errno) {
	t.Helper()
	u, e := mint.Update(p)
	if f := light.Check(s, u, now); e != api.OK || f != want {
		t.Errorf("%s: Update answers error %d, Check %d, not %d", name, e, f, want)
	}
}

// P15.2: the update of a plan is right by a store, where the plan is honest; else just that is told.
func TestUpdateChecks(t *testing.T) {
	s := beginning(t, 5, secrets(1))
	for name, p := range cases() {
		expectCheck(t, name, s, p, 10, api.OK)
		for _, bits := range []uint64{1, 1 << 15, bitsOf(11), greatest, 1<<16 + 1} {
			p.Bits = bits
			expectCheck(t, fmt.Sprintf("%s, bits %x", name, bits), s, p, 10, api.OK)
		}
	}
	for name, wrong := range map[string]struct {
		change func(p *api.Plan)
		want   api.Errno
	}{
		"nobody signs":          {func(p *api.Plan) { p.Bits = 0 }, api.ErrFew},
		"bits above alone":      {func(p *api.Plan) { p.Bits = 1 << 16 }, api.ErrFew},
		"Seen of Slot":          {func(p *api.Plan) { p.Seen = 10 }, api.ErrSlot},
		"Final above Seen":      {func(p *api.Plan) { p.Final = 11 }, api.ErrSlot},
		"Slot above now":        {func(p *api.Plan) { p.Slot = 11 }, api.ErrSlot},
		"Seen at the store's":   {func(p *api.Plan) { p.Seen, p.Final, p.Next = 5, 0, nil }, api.ErrOld},
		"of others' secrets":    {func(p *api.Plan) { p.Now = secrets(2) }, api.ErrSig},
		"of two that changed":   {func(p *api.Plan) { p.Now = with(with(p.Now, 0, 2), 1, 1); p.Bits = 1 }, api.ErrSig},
		"of two, both of which": {func(p *api.Plan) { p.Now = with(with(p.Now, 0, 2), 1, 1); p.Bits = 3 }, api.OK},
	} {
		p := plan()
		wrong.change(&p)
		expectCheck(t, name, s, p, 10, wrong.want)
	}
	p := plan()
	p.Seen, p.Slot = 60, 64
	expectCheck(t, "another period", s, p, 64, api.ErrPeriod)
}

// P15.2: updates of plans lead a store on, from period to period, through both forks.
func TestUpdateLeadsOn(t *testing.T) {
	s := beginning(t, 0, secrets(1))
	for period := range uint64(7) {
		at, now := 64*period, secrets(1+20*period)
		p := api.Plan{Seen: at + 20, Slot: at + 21, Final: at + 10, Now: now, Next: secrets(21 + 20*period), Bits: everyone, Accounts: accounts, Receipts: receipts}
		s = applied(t, s, p)
		// Told once more it is no other one.
		p.Seen, p.Slot, p.Final, p.Bits = at+31, at+32, at+22, bitsOf(11)<<5
		s = applied(t, s, p)
		p.Seen, p.Slot, p.Final, p.Next = at+62, at+63, at+62, nil
		s = applied(t, s, p)
	}
}

// applied is a store with a plan's update, which makes its Final final.
func applied(t *testing.T, s api.Store, p api.Plan) api.Store {
	t.Helper()
	u, e := mint.Update(p)
	next, f := light.Apply(s, u, p.Slot)
	if e != api.OK || f != api.OK || told(next.Final) != told(u.Final) || p.Next != nil && told(next.Next) != told(u.Next) {
		t.Fatalf("slot %d: Update answers error %d, Apply %d, and %x", p.Slot, e, f, next.Final)
	}
	return next
}
