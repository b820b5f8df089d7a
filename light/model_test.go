package light_test

import (
	"fmt"
	"math/big"
	"slices"
	"testing"

	"pharos/api"
	"pharos/light"
)

// The model follows the chapter's words one by one; who signed a text it knows by the secrets, without any pairing.

// mixer makes the same numbers in each run.
type mixer uint64

func (m *mixer) below(n int) int {
	*m += 0x9e3779b97f4a7c15
	z := uint64(*m)
	z = (z ^ z>>30) * 0xbf58476d1ce4e5b9
	z = (z ^ z>>27) * 0x94d049bb133111eb
	return int((z ^ z>>31) % uint64(n))
}

func oneOf[T any](m *mixer, l ...T) T { return l[m.below(len(l))] }

func plainMany(u api.Update) int {
	return weights(api.Update{Bits: u.Bits})[4]
}

func plainHasNext(u api.Update) bool { return len(u.Next.Keys)+len(u.NextBranch) != 0 }

func plainFinal(u api.Update) bool {
	return len(u.FinalBranch) != 0 || !sameLight(u.Final, api.Light{})
}

// plainLeaf tells whether a branch of 3 leads from a leaf to the root.
func plainLeaf(leaf string, branch []string, i int, root string) bool {
	if len(branch) != 3 {
		return false
	}
	for height, neighbour := range branch {
		if i>>height%2 == 1 {
			leaf = plainSum(neighbour, leaf)
		} else {
			leaf = plainSum(leaf, neighbour)
		}
	}
	return leaf == root
}

// plainHolds is asked of right headers and Execs alone.
func plainHolds(l api.Light) bool {
	if len(l.Branch) != 2 {
		return false
	}
	return plainSum(l.Branch[1], plainSum(plainExecRoot(l.Exec), l.Branch[0])) == l.Beacon.Body
}

// plainSigned is the only signature that holds, of a committee that is a made one.
func plainSigned(c api.Committee, u api.Update) string {
	number := slices.IndexFunc(madeCommittees(), func(other api.Committee) bool { return sameCommittee(c, other) })
	return signed(number, u.Bits, plainText(u.Seen.Beacon, plainFork(u.Slot)))
}

func plainCheck(s api.Store, u api.Update, now uint64) api.Errno {
	seen, store := u.Seen.Beacon.Slot, s.Final.Beacon.Slot
	known := len(s.Next.Keys) != 0
	if plainMany(u) == 0 {
		return api.ErrFew
	}
	if !plainHolds(u.Seen) {
		return api.ErrHead
	}
	if !slices.IsSorted([]uint64{u.Final.Beacon.Slot, seen, u.Slot, now}) || u.Slot == seen {
		return api.ErrSlot
	}
	if u.Slot/64 != store/64 && !(known && u.Slot/64 == store/64+1) {
		return api.ErrPeriod
	}
	if seen <= store && !(!known && plainHasNext(u) && seen/64 == store/64) {
		return api.ErrOld
	}
	if plainFinal(u) && (u.Final.Beacon.Parent == "" || !plainHolds(u.Final)) {
		return api.ErrHead
	}
	if plainFinal(u) && !plainLeaf(plainHeaderRoot(u.Final.Beacon), u.FinalBranch, 3, u.Seen.Beacon.State) {
		return api.ErrBranch
	}
	if plainHasNext(u) && known && seen/64 == store/64 && !sameCommittee(u.Next, s.Next) {
		return api.ErrNext
	}
	if plainHasNext(u) && (len(u.Next.Keys) != 16 || len(u.Next.Sum) != 5) {
		return api.ErrHead
	}
	if plainHasNext(u) && !plainLeaf(plainCommitteeRoot(u.Next), u.NextBranch, 5, u.Seen.Beacon.State) {
		return api.ErrBranch
	}
	members := s.Next
	if u.Slot/64 == store/64 {
		members = s.Now
	}
	if u.Sig != plainSigned(members, u) {
		return api.ErrSig
	}
	return api.OK
}

// plainTake takes an update over.
func plainTake(s api.Store, u api.Update) api.Store {
	gone := int64(u.Final.Beacon.Slot/64) - int64(s.Final.Beacon.Slot/64)
	if len(s.Next.Keys) == 0 {
		if gone == 0 {
			s.Next = u.Next
		}
	} else if gone == 1 {
		s.Now = s.Next
		s.Next = u.Next
		s.Last = s.This
		s.This = 0
	}
	if u.Final.Beacon.Slot > s.Final.Beacon.Slot {
		s.Final = u.Final
		if u.Final.Beacon.Slot > s.Newest.Beacon.Slot {
			s.Newest = u.Final
		}
	}
	s.Best, s.Has = api.Update{}, false
	return s
}

func plainApply(s api.Store, u api.Update, now uint64) (api.Store, api.Errno) {
	if e := plainCheck(s, u, now); e != api.OK {
		return s, e
	}
	known, many, seen := len(s.Next.Keys) != 0, plainMany(u), u.Seen.Beacon.Slot
	if !s.Has || slices.Compare(weights(u), weights(s.Best)) > 0 {
		s.Best, s.Has = u, true
	}
	if many > s.This {
		s.This = many
	}
	if many > s.Last/2 && many > s.This/2 && seen > s.Newest.Beacon.Slot {
		s.Newest = u.Seen
	}
	above := u.Final.Beacon.Slot > s.Final.Beacon.Slot
	gives := !known && plainHasNext(u) && plainFinal(u) && u.Final.Beacon.Slot/64 == seen/64
	if many >= 11 && (above || gives) {
		s = plainTake(s, u)
	}
	return s, api.OK
}

func plainForce(s api.Store, now uint64) (api.Store, api.Errno) {
	last := new(big.Int).SetUint64(s.Final.Beacon.Slot)
	last.Add(last, big.NewInt(64))
	if !s.Has || new(big.Int).SetUint64(now).Cmp(last) <= 0 {
		return s, api.ErrForce
	}
	best := s.Best
	if best.Final.Beacon.Slot <= s.Final.Beacon.Slot {
		best.Final = best.Seen
	}
	s = plainTake(s, best)
	s.Forced = true
	return s, api.OK
}

// madePlan is a plan near the periods 0, 1 and 2.
func madePlan(m *mixer) plan {
	seen := oneOf[uint64](m, 0, 5, 6, 9, 9, 60, 62, 63, 63, 64, 65, 66, 70, 126, 127, 128, 129, 130, 160)
	p := plan{
		seen:    seen,
		slot:    seen + oneOf[uint64](m, 0, 1, 1, 1, 1, 1, 2, 2, 5, 64),
		isFinal: m.below(3) > 0,
		final:   seen + 1 - min(seen+1, oneOf[uint64](m, 0, 1, 1, 2, 2, 2, 3, 5, 20, 64, 200)),
		next:    oneOf(m, 0, 0, 1, 2, 2, 2, 3, 3, 4),
		bits:    oneOf(m, 1, bitsOf(5), bitsOf(8), bitsOf(9), 0x3ff0, bitsOf(11), bitsOf(12), everyone, everyone, 65536, greatest),
	}
	p.by = min(int(p.slot/64)+1, committees-1)
	if m.below(12) == 0 {
		p.by = oneOf(m, 1, 2, 3)
	}
	return p
}

// madeUpdate is that of a plan, sometimes with something wrong.
func madeUpdate(m *mixer, p plan) api.Update {
	u := p.update()
	switch m.below(24) {
	case 0:
		u.Seen.Exec.Number++
	case 1:
		u.Final = lightOf(p.final, zeros)
	case 2:
		u.FinalBranch = []string{zeros, zeros, zeros}
	case 3:
		u.NextBranch = nil
	case 4:
		u.Next = api.Committee{}
	case 5:
		u.Sig = signed(1, 1, "a")
	}
	return u
}

// madeStore is a store near the periods 0 and 1, its committees those of the periods.
func madeStore(m *mixer) api.Store {
	slot := oneOf[uint64](m, 0, 5, 8, 9, 61, 62, 63, 64, 65, 69)
	number := int(slot/64) + 1
	s := storeOf(slot, number, oneOf(m, 0, number+1, number+1))
	s.Newest = lightOf(oneOf(m, slot, slot, slot+1, slot+4, slot+60, slot/2, 0), made(32, 50))
	s.Last, s.This = oneOf(m, 0, 0, 9, 16, 17, 18), oneOf(m, 0, 0, 4, 10, 11, 16)
	if m.below(2) == 0 {
		s.Best, s.Has = madePlan(m).update(), true
	}
	s.Forced = m.below(4) == 0
	return s
}

// P14.2, P14.3, P14.4: many stores, updates and slots, against the model.
func TestModel(t *testing.T) {
	m := mixer(14)
	counts := map[string]int{}
	for range 4000 {
		s := madeStore(&m)
		p := madePlan(&m)
		u := madeUpdate(&m, p)
		now := oneOf(&m, u.Slot, u.Slot, u.Slot+1, greatest, u.Slot-1)
		name := fmt.Sprintf("%+v at %d, on %s", p, now, told(s))
		want, e := plainApply(s, u, now)
		counts[fmt.Sprint(e)]++
		if e == api.OK {
			counts["best"] += len(want.Best.Sig) / 5
			expectApply(t, name, s, u, now, want)
		} else {
			expectCheck(t, name, s, u, now, e)
		}
		now = s.Final.Beacon.Slot + oneOf[uint64](&m, 64, 65, 66, 1000)
		want, e = plainForce(s, now)
		counts[fmt.Sprint(e)+" forced"]++
		if e == api.OK {
			expectForce(t, name, s, now, want)
		} else {
			expectNoForce(t, name, s, now)
		}
	}
	// All that may come out must have come out, and often.
	for _, key := range []string{"0", "best", "141", "130", "142", "143", "144", "145", "146", "147", "0 forced", "148 forced"} {
		if counts[key] < 20 {
			t.Errorf("%s came out %d times, of %v", key, counts[key], counts)
		}
	}
}

// walk is a store that goes on by updates and forces, as long as a test likes.
type walk struct {
	m   mixer
	s   api.Store
	now uint64
}

// next is an update that the store may take, or may not, a few slots on.
func (w *walk) next() (api.Update, plan) {
	w.now += uint64(oneOf(&w.m, 0, 1, 1, 2, 3, 9, 30))
	seen := w.now - min(w.now, uint64(oneOf(&w.m, 1, 1, 1, 1, 2, 3)))
	p := plan{
		seen:    seen,
		slot:    seen + 1,
		isFinal: w.m.below(4) > 0,
		final:   seen - min(seen, uint64(oneOf(&w.m, 0, 1, 2, 2, 5, 40))),
		next:    number(seen/64 + 1),
		bits:    oneOf(&w.m, bitsOf(4), bitsOf(9), bitsOf(10), bitsOf(11), everyone, everyone),
	}
	if w.m.below(3) == 0 {
		p.next = 0
	}
	p.by = number(p.slot / 64)
	return p.update(), p
}

// number is that of a period's committee.
func number(period uint64) int { return 1 + int(period%(committees-1)) }

// P14.5: what was begun goes on by updates and forces, as the model does; what follows is seen at each step.
func TestWalks(t *testing.T) {
	counts := map[string]int{}
	for seed := range 12 {
		w := walk{m: mixer(seed), now: 3}
		b := bootOf(2, number(0))
		w.s, _ = light.Begin(ownRoot(b), b)
		for range 60 {
			u, p := w.next()
			want, e := plainApply(w.s, u, w.now)
			got, f := light.Apply(w.s, u, w.now)
			w.goOn(t, fmt.Sprintf("at %d, %+v", w.now, p), got, want, e, f, counts)
			if w.m.below(3) == 0 {
				want, e = plainForce(w.s, w.now)
				got, f = light.Force(w.s, w.now)
				w.goOn(t, fmt.Sprint("a force at ", w.now), got, want, e, f, counts)
			}
		}
	}
	if counts["period"] < 20 || counts["forced"] < 5 || counts["148"] < 20 || counts["0"] < 200 {
		t.Errorf("%v: the walks test too little", counts)
	}
}

// goOn takes what was answered over, and sees what must follow: slots never go back, a period rises by at most one, what is refused changes nothing; Now is the period's committee, Next, if known, the next one's.
func (w *walk) goOn(t *testing.T, name string, got, want api.Store, e, f api.Errno, counts map[string]int) {
	t.Helper()
	was, is := w.s.Final.Beacon.Slot, got.Final.Beacon.Slot
	for _, c := range []struct {
		fault string
		is    bool
	}{
		{"another answer", e != f || !sameStore(got, want)},
		{"a refusal that changes", f != api.OK && !sameStore(got, w.s)},
		{"the final slot goes back", is < was},
		{"the newest slot goes back", got.Newest.Beacon.Slot < w.s.Newest.Beacon.Slot},
		{"the newest slot is below the final one", got.Newest.Beacon.Slot < is},
		{"more than one period", is/64 > was/64+1},
		{"another committee", !sameCommittee(got.Now, committee(number(is/64)))},
		{"another next committee", len(got.Next.Keys) > 0 && !sameCommittee(got.Next, committee(number(is/64+1)))},
		{"forced, and not any more", w.s.Forced && !got.Forced},
	} {
		if c.is {
			t.Fatalf("%s: %s: errors %d and %d, from\n%s to\n%s, not\n%s", name, c.fault, f, e, told(w.s), told(got), told(want))
		}
	}
	counts[fmt.Sprint(f)]++
	counts["period"] += int(is/64 - was/64)
	if got.Forced && !w.s.Forced {
		counts["forced"]++
	}
	w.s = got
}
