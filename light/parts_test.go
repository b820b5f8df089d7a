package light_test

import (
	"fmt"
	"slices"
	"testing"

	"pharos/api"
)

// P14.2: an update is final by Final, whatever it has, or by FinalBranch.
func TestIsFinal(t *testing.T) {
	p := good()
	p.isFinal = false
	s := storeOf(5, 1, 0)
	expectCheck(t, "not final", s, p.update(), 10, api.OK)
	u := p.update()
	u.FinalBranch, u.Final.Branch = []string{}, []string{}
	expectCheck(t, "not final, with lists of none", s, u, 10, api.OK)
	for name, do := range map[string]func(u *api.Update){
		"FinalBranch alone":   func(u *api.Update) { u.FinalBranch = good().update().FinalBranch },
		"an empty chunk":      func(u *api.Update) { u.FinalBranch = []string{""} },
		"the slot alone":      func(u *api.Update) { u.Final.Beacon.Slot = 1 },
		"the proposer alone":  func(u *api.Update) { u.Final.Beacon.Proposer = 1 },
		"the parent alone":    func(u *api.Update) { u.Final.Beacon.Parent = "x" },
		"the state alone":     func(u *api.Update) { u.Final.Beacon.State = zeros },
		"the body alone":      func(u *api.Update) { u.Final.Beacon.Body = "\x00" },
		"the accounts alone":  func(u *api.Update) { u.Final.Exec.Accounts = "x" },
		"the receipts alone":  func(u *api.Update) { u.Final.Exec.Receipts = zeros },
		"the number alone":    func(u *api.Update) { u.Final.Exec.Number = 1 << 63 },
		"its branch alone":    func(u *api.Update) { u.Final.Branch = []string{""} },
		"zeros, and a branch": func(u *api.Update) { u.FinalBranch = []string{zeros, zeros, zeros} },
	} {
		u := p.update()
		do(&u)
		expectCheck(t, name, s, u, 10, api.ErrHead)
	}
	u = p.update()
	u.Final = lightOf(7, made(32, 8))
	expectCheck(t, "Final without FinalBranch", s, u, 10, api.ErrBranch)
	u.FinalBranch = []string{}
	expectCheck(t, "Final with a FinalBranch of none", s, u, 10, api.ErrBranch)
}

// branches are others than that one, by names.
func branches(l []string) map[string][]string {
	others := map[string][]string{
		"of 1":          l[:1],
		"of 2":          l[:2],
		"of 4":          append(slices.Clone(l), zeros),
		"of 4, 0 ahead": append([]string{zeros}, l...),
		"turned about":  {l[2], l[1], l[0]},
		"a short chunk": {l[0], l[1], l[2][:31]},
		"a long chunk":  {l[0] + "\x00", l[1], l[2]},
		"an empty one":  {l[0], "", l[2]},
	}
	for i := range l {
		for at := range 32 {
			others[fmt.Sprint("the chunk ", i, " changed at ", at)] = with(l, i, changed(l[i], at, 4))
		}
	}
	return others
}

// P14.2: Final holds, and FinalBranch checks of its header's root.
func TestCheckFinal(t *testing.T) {
	s, right := storeOf(5, 1, 0), good().update()
	for name, branch := range branches(right.FinalBranch) {
		u := right
		u.FinalBranch = branch
		expectCheck(t, name, s, u, 10, api.ErrBranch)
	}
	u := right
	u.FinalBranch = right.NextBranch
	expectCheck(t, "the other branch", s, u, 10, api.ErrBranch)
	for name, do := range map[string]func(l *api.Light){
		"another number": func(l *api.Light) { l.Exec.Number++ },
		"no branch":      func(l *api.Light) { l.Branch = nil },
		"a long branch":  func(l *api.Light) { l.Branch = append(l.Branch, zeros) },
		"a short state":  func(l *api.Light) { l.Beacon.State = l.Beacon.State[1:] },
		"nothing":        func(l *api.Light) { *l = api.Light{} },
	} {
		u := good().update()
		do(&u.Final)
		expectCheck(t, name, s, u, 10, api.ErrHead)
	}
	for name, l := range map[string]api.Light{
		"another slot":  lightOf(6, made(32, 8)),
		"another state": lightOf(7, made(32, 9)),
	} {
		u := right
		u.Final = l
		expectCheck(t, name, s, u, 10, api.ErrBranch)
	}
}

// within is an update whose roots stand at these leaves of a tree of that depth, below Seen's State, signed.
func within(p plan, depth, finalLeaf, nextLeaf int) api.Update {
	u := p.update()
	leaves := make([]string, 1<<depth)
	for i := range leaves {
		leaves[i] = made(32, 40+i)
	}
	if p.isFinal {
		leaves[finalLeaf] = plainHeaderRoot(u.Final.Beacon)
	}
	if p.next > 0 {
		leaves[nextLeaf] = plainCommitteeRoot(u.Next)
		u.NextBranch = plainBranch(depth, nextLeaf, leaves...)
	}
	if p.isFinal {
		u.FinalBranch = plainBranch(depth, finalLeaf, leaves...)
	}
	u.Seen = lightOf(p.seen, plainRoot(depth, leaves...))
	u.Sig = p.sign(u)
	return u
}

// P14.2: the finalized header stands at the leaf 3 of the depth 3, the next committee at the leaf 5, and nowhere else.
func TestCheckLeaves(t *testing.T) {
	s := storeOf(5, 1, 0)
	for depth := 1; depth < 6; depth++ {
		for leaf := range 1 << depth {
			name := fmt.Sprint("the leaf ", leaf, " of the depth ", depth)
			p := good()
			p.next = 0
			want := api.ErrBranch
			if depth == 3 && leaf == 3 {
				want = api.OK
			}
			expectCheck(t, "Final at "+name, s, within(p, depth, leaf, 0), 10, want)
			p = good()
			p.isFinal = false
			want = api.ErrBranch
			if depth == 3 && leaf == 5 {
				want = api.OK
			}
			expectCheck(t, "Next at "+name, s, within(p, depth, 0, leaf), 10, want)
		}
	}
	expectCheck(t, "both", s, within(good(), 3, 3, 5), 10, api.OK)
	expectCheck(t, "exchanged", s, within(good(), 3, 5, 3), 10, api.ErrBranch)
}

// P14.2: a next committee that there is is right, and NextBranch checks of its root.
func TestCheckNext(t *testing.T) {
	s, right := storeOf(5, 1, 0), good().update()
	for name, branch := range branches(right.NextBranch) {
		u := right
		u.NextBranch = branch
		expectCheck(t, name, s, u, 10, api.ErrBranch)
	}
	for name, do := range map[string]func(u *api.Update){
		"no branch":        func(u *api.Update) { u.NextBranch = nil },
		"the other branch": func(u *api.Update) { u.NextBranch = u.FinalBranch },
		"another one":      func(u *api.Update) { u.Next = committee(3) },
		"another sum":      func(u *api.Update) { u.Next.Sum = committee(3).Sum },
		"another key":      func(u *api.Update) { u.Next.Keys[15] = committee(3).Keys[15] },
	} {
		u := good().update()
		do(&u)
		expectCheck(t, name, s, u, 10, api.ErrBranch)
	}
	for name, do := range map[string]func(u *api.Update){
		"no keys":    func(u *api.Update) { u.Next.Keys = nil },
		"nothing":    func(u *api.Update) { u.Next = api.Committee{} },
		"15 keys":    func(u *api.Update) { u.Next.Keys = u.Next.Keys[:15] },
		"17 keys":    func(u *api.Update) { u.Next.Keys = append(u.Next.Keys, u.Next.Keys[0]) },
		"a key of 4": func(u *api.Update) { u.Next.Keys[3] = u.Next.Keys[3][:4] },
		"no sum":     func(u *api.Update) { u.Next.Sum = "" },
		"no branch of what is not right": func(u *api.Update) {
			u.Next.Sum, u.NextBranch = "", nil
		},
	} {
		u := good().update()
		do(&u)
		expectCheck(t, name, s, u, 10, api.ErrHead)
	}
	// A sum alone is no committee.
	p := good()
	p.next = 0
	u := p.update()
	u.Next.Sum = "sum"
	expectCheck(t, "a sum alone", s, u, 10, api.OK)
}

// P14.2: where Next is known an update of the store's period must not tell another one.
func TestCheckAnotherNext(t *testing.T) {
	inPeriod := plan{seen: 62, slot: 63, next: 2, bits: everyone, by: 1}
	between := plan{seen: 63, slot: 64, next: 2, bits: everyone, by: 2}
	ahead := plan{seen: 64, slot: 65, next: 3, bits: everyone, by: 2}
	s := storeOf(5, 1, 2)
	expectCheck(t, "the same, of the period", s, inPeriod.update(), 100, api.OK)
	expectCheck(t, "the same, of the period, signed in the next one", s, between.update(), 100, api.OK)
	expectCheck(t, "another one, of the next period", s, ahead.update(), 100, api.OK)
	ahead.next = 2
	expectCheck(t, "the same, of the next period", s, ahead.update(), 100, api.OK)
	inPeriod.next, between.next = 3, 3
	expectCheck(t, "another one, of the period", s, inPeriod.update(), 100, api.ErrNext)
	expectCheck(t, "another one, of the period, signed in the next one", s, between.update(), 100, api.ErrNext)
	expectCheck(t, "another one, Next not known", storeOf(5, 1, 0), inPeriod.update(), 100, api.OK)
	inPeriod.next, between.next = 0, 0
	expectCheck(t, "none, of the period", s, inPeriod.update(), 100, api.OK)
	expectCheck(t, "none, of the period, signed in the next one", s, between.update(), 100, api.OK)
}

// P14.2: a committee is another one by any key, or the sum; one that is not right is another one first.
func TestCheckAnotherNextParts(t *testing.T) {
	for name, do := range map[string]func(c *api.Committee){
		"the first key": func(c *api.Committee) { c.Keys[0] = changed(c.Keys[0], 4, 1) },
		"the last key":  func(c *api.Committee) { c.Keys[15] = changed(c.Keys[15], 0, 1) },
		"the sum":       func(c *api.Committee) { c.Sum = changed(c.Sum, 2, 1) },
		"keys turned":   func(c *api.Committee) { c.Keys[3], c.Keys[4] = c.Keys[4], c.Keys[3] },
		"15 keys":       func(c *api.Committee) { c.Keys = c.Keys[:15] },
		"17 keys":       func(c *api.Committee) { c.Keys = append(c.Keys, c.Keys[15]) },
		"no keys":       func(c *api.Committee) { c.Keys = nil },
		"nothing":       func(c *api.Committee) { *c = api.Committee{} },
		"cut elsewhere": func(c *api.Committee) {
			both := c.Keys[0] + c.Keys[1]
			c.Keys[0], c.Keys[1] = both[:4], both[4:]
		},
	} {
		u := good().update()
		do(&u.Next)
		expectCheck(t, name, storeOf(5, 1, 2), u, 10, api.ErrNext)
	}
	u := good().update()
	u.Next = api.Committee{}
	p := good()
	p.next = 0
	expectCheck(t, "a branch alone, Next known", storeOf(5, 1, 2), u, 10, api.ErrNext)
	expectCheck(t, "none, Next known", storeOf(5, 1, 2), p.update(), 10, api.OK)
}

// P14.2: the text that is signed, by the slot of the signature: its number, written out, 9 at most.
func TestCheckTexts(t *testing.T) {
	for _, c := range []struct{ slot, f uint64 }{
		{1, 7}, {2, 7}, {63, 7}, {64, 7}, {65, 7}, {127, 7}, {128, 7},
		{129, 8}, {130, 8}, {255, 8}, {256, 8},
		{257, 9}, {258, 9}, {383, 9}, {384, 9}, {385, 9}, {386, 9}, {413, 9}, {512, 9}, {513, 9}, {640, 9}, {641, 9},
		{1024, 9}, {1025, 9}, {1152, 9}, {1153, 9}, {1280, 9}, {1281, 9}, {1409, 9},
		{1 << 20, 9}, {1 << 32, 9}, {1 << 63, 9}, {greatest - 63, 9}, {greatest - 1, 9}, {greatest, 9},
	} {
		s := storeOf(c.slot/64*64, 1, 0)
		p := plan{seen: c.slot - 1, slot: c.slot, bits: 5, by: 1}
		// Where the slot ahead is not above the period's first, the next period's committee signs, or the update has the one that is missing.
		if ahead := c.slot - 1; ahead <= s.Final.Beacon.Slot && ahead > 0 {
			s, p.by = storeOf(ahead-1, 2, 1), 1
			if (ahead-1)/64 == c.slot/64 {
				p.by = 2
			}
		} else if ahead == 0 {
			p.next = 2
		}
		u := p.update()
		for f := range uint64(40) {
			u.Sig = signed(p.by, u.Bits, plainText(u.Seen.Beacon, f))
			want := api.ErrSig
			if f == c.f {
				want = api.OK
			}
			expectCheck(t, fmt.Sprint("the slot ", c.slot, ", the number ", f), s, u, greatest, want)
		}
	}
}

// P14.2: the signature is of just the members that the bits tell.
func TestCheckMembers(t *testing.T) {
	s := storeOf(5, 1, 2)
	text := func(u api.Update) string { return plainText(u.Seen.Beacon, 7) }
	for i := range 16 {
		p := good()
		p.bits = 1 << i
		u := p.update()
		for j := range 16 {
			u.Sig = signed(1, 1<<j, text(u))
			want := api.ErrSig
			if i == j {
				want = api.OK
			}
			expectCheck(t, fmt.Sprint("the member ", i, ", signed by ", j), s, u, 10, want)
		}
		u.Bits = everyone &^ (1 << i)
		expectCheck(t, fmt.Sprint("but the member ", i, ", signed by another one"), s, u, 10, api.ErrSig)
		u.Sig = signed(1, everyone, text(u))
		expectCheck(t, fmt.Sprint("but the member ", i, ", signed by all"), s, u, 10, api.ErrSig)
		u.Sig = signed(1, u.Bits, text(u))
		expectCheck(t, fmt.Sprint("but the member ", i), s, u, 10, api.OK)
		u.Bits = everyone
		expectCheck(t, fmt.Sprint("all, signed without the member ", i), s, u, 10, api.ErrSig)
	}
}

// P14.2: a signature that does not hold: of another text, slot, committee, or none at all.
func TestCheckSig(t *testing.T) {
	s := storeOf(5, 1, 2)
	right := good().update()
	own := plainText(right.Seen.Beacon, 7)
	other := plainText(lightOf(9, zeros).Beacon, 7)
	for name, sig := range map[string]string{
		"none":                  "",
		"Inf":                   "\x00\x00\x00\x00\x00",
		"no point":              "fives",
		"of four bytes":         right.Sig[:4],
		"of six bytes":          right.Sig + "\x00",
		"twice":                 right.Sig + right.Sig,
		"the sum of keys":       committee(1).Sum,
		"of another header":     signed(1, right.Bits, other),
		"of the header's root":  signed(1, right.Bits, plainHeaderRoot(right.Seen.Beacon)),
		"of the final header":   signed(1, right.Bits, plainText(right.Final.Beacon, 7)),
		"of the next committee": signed(2, right.Bits, own),
		"the negative one":      changed(right.Sig, 0, 1),
	} {
		u := right
		u.Sig = sig
		expectCheck(t, name, s, u, 10, api.ErrSig)
	}
	u := right
	u.Slot = 11
	expectCheck(t, "another slot of the same number", s, u, 11, api.OK)
	// What signs the one header signs no other one of the same roots.
	u = good().update()
	u.Seen.Beacon.Proposer++
	expectCheck(t, "another proposer", s, u, 10, api.ErrSig)
}

// P14.2: Now signs in the store's period, Next in the one behind it.
func TestCheckWhoSigns(t *testing.T) {
	for _, c := range []struct {
		slot uint64
		by   int
		want api.Errno
	}{
		{63, 1, api.OK}, {63, 2, api.ErrSig}, {63, 3, api.ErrSig},
		{64, 1, api.ErrSig}, {64, 2, api.OK}, {64, 3, api.ErrSig},
		{127, 1, api.ErrSig}, {127, 2, api.OK}, {127, 3, api.ErrSig},
	} {
		for _, next := range []int{0, 2} {
			p := plan{seen: 62, slot: c.slot, next: next, bits: bitsOf(12), by: c.by}
			expectCheck(t, fmt.Sprint(c, ", with ", next), storeOf(5, 1, 2), p.update(), 200, c.want)
		}
	}
	p := plan{seen: 66, slot: 68, next: 3, bits: bitsOf(12), by: 2}
	expectCheck(t, "Seen of the next period", storeOf(5, 1, 2), p.update(), 200, api.OK)
	p.by = 3
	expectCheck(t, "signed by the one that it tells", storeOf(5, 1, 2), p.update(), 200, api.ErrSig)
}

// P14.2, R1: committees of a store that are not right: members that there are may sign, others can't.
func TestCheckOddCommittees(t *testing.T) {
	u := good().update() // 11 sign
	for name, c := range map[string]struct {
		do   func(c *api.Committee)
		want api.Errno
	}{
		"11 keys":                  {func(c *api.Committee) { c.Keys = c.Keys[:11] }, api.OK},
		"10 keys":                  {func(c *api.Committee) { c.Keys = c.Keys[:10] }, api.ErrSig},
		"1 key":                    {func(c *api.Committee) { c.Keys = c.Keys[:1] }, api.ErrSig},
		"no keys":                  {func(c *api.Committee) { c.Keys = nil }, api.ErrSig},
		"no sum":                   {func(c *api.Committee) { c.Sum = "" }, api.OK},
		"20 keys":                  {func(c *api.Committee) { c.Keys = append(c.Keys, committee(2).Keys[:4]...) }, api.OK},
		"a key that does not sign": {func(c *api.Committee) { c.Keys[11] = "" }, api.OK},
		"a key that signs":         {func(c *api.Committee) { c.Keys[10] = "fives" }, api.ErrSig},
		"Inf where one signs":      {func(c *api.Committee) { c.Keys[0] = "\x00\x00\x00\x00\x00" }, api.ErrSig},
	} {
		s := storeOf(5, 1, 0)
		c.do(&s.Now)
		expectCheck(t, name, s, u, 10, c.want)
	}
	// Those that are there don't sign for those that are not.
	s := storeOf(5, 1, 0)
	s.Now.Keys = s.Now.Keys[:10]
	u.Sig = signed(1, bitsOf(10), plainText(u.Seen.Beacon, 7))
	expectCheck(t, "ten of ten, but eleven are told", s, u, 10, api.ErrSig)
	u.Bits = everyone
	expectCheck(t, "ten of ten, but all are told", s, u, 10, api.ErrSig)
	u.Bits = bitsOf(10)
	expectCheck(t, "ten of ten", s, u, 10, api.OK)
	u.Bits |= 1 << 20
	s.Now.Keys = append(committee(1).Keys, committee(2).Keys...)
	expectCheck(t, "a bit above the lowest 16, though there is such a key", s, u, 10, api.OK)
}
