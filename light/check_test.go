package light_test

import (
	"fmt"
	"testing"

	"pharos/api"
	"pharos/light"
)

// P14.2: the chapter's examples.
func TestCheckExamples(t *testing.T) {
	s, p := storeOf(5, 1, 0), good()
	expectCheck(t, "good", s, p.update(), 10, api.OK)
	u := p.update()
	u.Bits = 0
	expectCheck(t, "nobody signs", s, u, 10, api.ErrFew)
	p.slot = 9
	expectCheck(t, "Seen's slot is Slot", s, p.update(), 10, api.ErrSlot)
	expectCheck(t, "nothing", api.Store{}, api.Update{}, 0, api.ErrFew)
}

// trial is a check that is spoiled.
type trial struct {
	s   api.Store
	u   api.Update
	now uint64
}

// spoil is one thing by which an update becomes wrong, whatever else is.
type spoil struct {
	name string
	want api.Errno
	do   func(x *trial)
}

// spoils are in the order in which they are told.
func spoils() []spoil {
	return []spoil{
		{"nobody", api.ErrFew, func(x *trial) { x.u.Bits = 65536 }},
		{"Seen", api.ErrHead, func(x *trial) { x.u.Seen.Exec.Number ^= 1 }},
		{"now", api.ErrSlot, func(x *trial) { x.now = 3 }},
		{"period", api.ErrPeriod, func(x *trial) { x.u.Slot = 128 }},
		{"old", api.ErrOld, func(x *trial) { x.s.Final.Beacon.Slot = 9 }},
		{"Final", api.ErrHead, func(x *trial) { x.u.Final.Exec.Number ^= 1 }},
		{"FinalBranch", api.ErrBranch, func(x *trial) { x.u.FinalBranch = x.u.FinalBranch[:2] }},
		{"another next", api.ErrNext, func(x *trial) { x.s.Next.Sum = made(5, 1) }},
		{"next", api.ErrHead, func(x *trial) {
			x.u.Next.Keys = x.u.Next.Keys[:15]
			x.s.Next.Keys = x.s.Next.Keys[:15]
		}},
		{"NextBranch", api.ErrBranch, func(x *trial) { x.u.NextBranch[1] = changed(x.u.NextBranch[1], 9, 1) }},
		{"Sig", api.ErrSig, func(x *trial) { x.u.Sig = signed(2, 1, "another text") }},
	}
}

// P14.2: whatever is wrong at once, the first is told.
func TestCheckFirst(t *testing.T) {
	all := spoils()
	for choice := range 1 << len(all) {
		x := trial{storeOf(5, 1, 2), good().update(), 1000}
		name, want := "", api.OK
		for i, one := range all {
			if choice>>i&1 == 0 {
				continue
			}
			if name == "" {
				want = one.want
			}
			name += one.name + ", "
			one.do(&x)
		}
		expectCheck(t, name+"wrong", x.s, x.u, x.now, want)
	}
}

// P14.2: who signs is told by the lowest 16 bits alone.
func TestCheckBits(t *testing.T) {
	for _, c := range []struct {
		bits uint64
		want api.Errno
	}{
		{0, api.ErrFew},
		{1, api.OK},
		{2, api.OK},
		{1 << 15, api.OK},
		{bitsOf(5), api.OK},
		{bitsOf(6), api.OK},
		{bitsOf(8), api.OK},
		{0x5555, api.OK},
		{65535, api.OK},
		{65536, api.ErrFew},
		{65537, api.OK},
		{1 << 63, api.ErrFew},
		{1 << 32, api.ErrFew},
		{greatest &^ everyone, api.ErrFew},
		{1<<63 | 1<<15, api.OK},
		{greatest, api.OK},
	} {
		p := good()
		p.bits = c.bits
		expectCheck(t, fmt.Sprintf("bits %x", c.bits), storeOf(5, 1, 0), p.update(), 10, c.want)
	}
}

// P14.2: Seen must hold.
func TestCheckSeen(t *testing.T) {
	for name, do := range map[string]func(l *api.Light){
		"nothing":        func(l *api.Light) { *l = api.Light{} },
		"no branch":      func(l *api.Light) { l.Branch = nil },
		"a long branch":  func(l *api.Light) { l.Branch = append(l.Branch, zeros) },
		"other accounts": func(l *api.Light) { l.Exec.Accounts = zeros },
		"a short body":   func(l *api.Light) { l.Beacon.Body = l.Beacon.Body[:31] },
		"a short state":  func(l *api.Light) { l.Beacon.State = l.Beacon.State[:31] },
		"a long parent":  func(l *api.Light) { l.Beacon.Parent += "x" },
	} {
		u := good().update()
		do(&u.Seen)
		expectCheck(t, name, storeOf(5, 1, 0), u, 10, api.ErrHead)
		expectCheck(t, name+", at another slot", storeOf(5, 1, 0), u, 0, api.ErrHead)
	}
}

// P14.2: slots: now, Slot, Seen's, Final's.
func TestCheckSlots(t *testing.T) {
	for _, c := range []struct {
		now, slot, seen uint64
		final           int
		want            api.Errno
	}{
		{10, 10, 9, 7, api.OK},
		{11, 10, 9, 7, api.OK},
		{greatest, 10, 9, 7, api.OK},
		{9, 10, 9, 7, api.ErrSlot},
		{0, 10, 9, 7, api.ErrSlot},
		{10, 9, 9, 7, api.ErrSlot},
		{9, 9, 9, 7, api.ErrSlot},
		{10, 8, 9, 7, api.ErrSlot},
		{10, 0, 9, 7, api.ErrSlot},
		{10, 10, 9, 9, api.OK},
		{10, 10, 9, 10, api.ErrSlot},
		{20, 10, 9, 11, api.ErrSlot},
		{10, 10, 9, 0, api.OK},
		{63, 63, 6, 6, api.OK},
		{63, 63, 6, 7, api.ErrSlot},
		{10, 10, 9, -1, api.OK},
		{10, 10, 10, -1, api.ErrSlot},
		{9, 10, 9, -1, api.ErrSlot},
	} {
		p := good()
		p.seen, p.slot, p.isFinal, p.final = c.seen, c.slot, c.final >= 0, uint64(max(c.final, 0))
		expectCheck(t, fmt.Sprint(c), storeOf(5, 1, 0), p.update(), c.now, c.want)
	}
}

// P14.2: slots near the greatest number.
func TestCheckGreatSlots(t *testing.T) {
	for _, c := range []struct {
		now, slot, seen, final uint64
		want                   api.Errno
	}{
		{greatest, greatest, greatest - 1, greatest - 2, api.OK},
		{greatest, greatest, greatest - 1, greatest - 1, api.OK},
		{greatest, greatest, greatest - 2, greatest - 1, api.ErrSlot},
		{greatest, greatest, greatest, greatest - 1, api.ErrSlot},
		{greatest, greatest - 1, greatest, greatest - 1, api.ErrSlot},
		{greatest - 1, greatest, greatest - 1, greatest - 1, api.ErrSlot},
		{0, greatest, greatest - 1, greatest - 1, api.ErrSlot},
		{greatest, 0, greatest - 1, greatest - 1, api.ErrSlot},
		{greatest, 0, greatest, greatest, api.ErrSlot},
	} {
		p := plan{seen: c.seen, slot: c.slot, isFinal: true, final: c.final, bits: everyone, by: 1}
		expectCheck(t, fmt.Sprint(c), storeOf(greatest-5, 1, 0), p.update(), c.now, c.want)
	}
}

// P14.2: the period of Slot is the store's, or, with Next known, 1 more.
func TestCheckPeriods(t *testing.T) {
	for _, c := range []struct {
		final, slot     uint64
		known, notKnown api.Errno
	}{
		{0, 63, api.OK, api.OK},
		{0, 64, api.OK, api.ErrPeriod},
		{0, 127, api.OK, api.ErrPeriod},
		{0, 128, api.ErrPeriod, api.ErrPeriod},
		{0, 129, api.ErrPeriod, api.ErrPeriod},
		{0, greatest, api.ErrPeriod, api.ErrPeriod},
		{61, 63, api.OK, api.OK},
		{62, 64, api.OK, api.ErrPeriod},
		{63, 65, api.OK, api.ErrPeriod},
		{63, 128, api.ErrPeriod, api.ErrPeriod},
		{64, 63, api.ErrPeriod, api.ErrPeriod},
		{64, 5, api.ErrPeriod, api.ErrPeriod},
		{64, 66, api.OK, api.OK},
		{64, 127, api.OK, api.OK},
		{64, 128, api.OK, api.ErrPeriod},
		{64, 191, api.OK, api.ErrPeriod},
		{64, 192, api.ErrPeriod, api.ErrPeriod},
		{1088, 1151, api.OK, api.OK},
		{1088, 1152, api.OK, api.ErrPeriod},
		{1088, 1153, api.OK, api.ErrPeriod},
		{1087, 1152, api.ErrPeriod, api.ErrPeriod},
		{1087, 1151, api.OK, api.ErrPeriod},
		{1152, 1151, api.ErrPeriod, api.ErrPeriod},
		{1152, 1087, api.ErrPeriod, api.ErrPeriod},
		{greatest - 63, greatest, api.OK, api.OK},
		{greatest - 64, greatest, api.OK, api.ErrPeriod},
		{greatest - 127, greatest, api.OK, api.ErrPeriod},
		{greatest - 128, greatest, api.ErrPeriod, api.ErrPeriod},
		{greatest, greatest - 64, api.ErrPeriod, api.ErrPeriod},
		{greatest, 5, api.ErrPeriod, api.ErrPeriod},
		{greatest, 64, api.ErrPeriod, api.ErrPeriod},
	} {
		p := plan{seen: c.slot - 1, slot: c.slot, bits: everyone, by: 1}
		if c.slot/64 != c.final/64 {
			p.by = 2
		}
		expectCheck(t, fmt.Sprint("Next known: ", c), storeOf(c.final, 1, 2), p.update(), greatest, c.known)
		expectCheck(t, fmt.Sprint("Next not known: ", c), storeOf(c.final, 1, 0), p.update(), greatest, c.notKnown)
		s := storeOf(c.final, 1, 0)
		s.Next.Sum = committee(2).Sum
		expectCheck(t, fmt.Sprint("of Next the sum alone: ", c), s, p.update(), greatest, c.notKnown)
	}
}

// P14.2: that Next is known needs but one key.
func TestCheckKnown(t *testing.T) {
	s := storeOf(62, 1, 2)
	s.Next.Keys, s.Next.Sum = s.Next.Keys[:1], ""
	p := plan{seen: 63, slot: 64, bits: 1, by: 2}
	expectCheck(t, "one key", s, p.update(), 64, api.OK)
	s.Next.Keys = []string{}
	expectCheck(t, "none", s, p.update(), 64, api.ErrPeriod)
}

// P14.2: Seen is above Final's, or the store gets the next committee that it has not got.
func TestCheckOld(t *testing.T) {
	for _, c := range []struct {
		name  string
		final uint64
		known int
		seen  uint64
		next  int
		want  api.Errno
	}{
		{"above", 66, 2, 67, 0, api.OK},
		{"above, not known", 66, 0, 67, 0, api.OK},
		{"the same", 66, 2, 66, 0, api.ErrOld},
		{"the same, with one, known", 66, 2, 66, 2, api.ErrOld},
		{"the same, with one, not known", 66, 0, 66, 2, api.OK},
		{"the same, without, not known", 66, 0, 66, 0, api.ErrOld},
		{"below", 66, 2, 65, 0, api.ErrOld},
		{"below, with one, known", 66, 2, 65, 2, api.ErrOld},
		{"below, with one, not known", 66, 0, 65, 2, api.OK},
		{"the period's first, with one, not known", 66, 0, 64, 2, api.OK},
		{"the period ahead's last, with one, not known", 66, 0, 63, 2, api.ErrOld},
		{"the first of all, with one, not known", 66, 0, 0, 2, api.ErrOld},
		{"below, without, not known", 66, 0, 65, 0, api.ErrOld},
		{"the period's last", 127, 0, 126, 2, api.OK},
	} {
		p := plan{seen: c.seen, slot: 127, next: c.next, bits: everyone, by: 1}
		expectCheck(t, c.name, storeOf(c.final, 1, c.known), p.update(), 1000, c.want)
	}
	// In the first period, where nothing is below 0.
	p := plan{seen: 0, slot: 1, next: 2, bits: everyone, by: 1}
	expectCheck(t, "at 0, with one, not known", storeOf(0, 1, 0), p.update(), 1, api.OK)
	p.next = 0
	expectCheck(t, "at 0, without, not known", storeOf(0, 1, 0), p.update(), 1, api.ErrOld)
}

// P14.2: of a next committee Keys alone, or NextBranch alone, are enough to have one; a Sum is not.
func TestCheckOldHalf(t *testing.T) {
	p := plan{seen: 65, slot: 70, bits: everyone, by: 1}
	for _, c := range []struct {
		name string
		do   func(u *api.Update)
		want api.Errno
	}{
		{"neither", func(u *api.Update) {}, api.ErrOld},
		{"empty lists", func(u *api.Update) { u.Next.Keys, u.NextBranch = []string{}, []string{} }, api.ErrOld},
		{"a sum", func(u *api.Update) { u.Next.Sum = committee(2).Sum }, api.ErrOld},
		{"keys", func(u *api.Update) { u.Next.Keys = committee(2).Keys }, api.ErrHead},
		{"a key", func(u *api.Update) { u.Next.Keys = []string{""} }, api.ErrHead},
		{"a committee", func(u *api.Update) { u.Next = committee(2) }, api.ErrBranch},
		{"a branch", func(u *api.Update) { u.NextBranch = []string{zeros, zeros, zeros} }, api.ErrHead},
		{"a chunk", func(u *api.Update) { u.NextBranch = []string{""} }, api.ErrHead},
	} {
		u := p.update()
		c.do(&u)
		expectCheck(t, c.name, storeOf(66, 1, 0), u, 100, c.want)
	}
}

// R4: what is told hangs on the arguments alone.
func TestCheckAgain(t *testing.T) {
	s, u := storeOf(5, 1, 0), good().update()
	for range 3 {
		for _, now := range []uint64{10, 9} {
			want := api.OK
			if now == 9 {
				want = api.ErrSlot
			}
			if e := light.Check(s, u, now); e != want {
				t.Errorf("at %d: Check answers %d", now, e)
			}
		}
	}
}
