package light_test

import (
	"fmt"
	"testing"

	"pharos/api"
	"pharos/light"
)

// forcible is a store of a slot with the update of a plan as its best one.
func forcible(slot uint64, next int, p plan) api.Store {
	s := storeOf(slot, 1, next)
	s.Best, s.Has, s.Last, s.This = p.update(), true, 3, 9
	return s
}

// forced is the store with another final header, or with its own one, without a best one.
func forced(s api.Store, final api.Light) api.Store {
	if final.Beacon.Slot > max(s.Final.Beacon.Slot, s.Newest.Beacon.Slot) {
		s.Newest = final
	}
	s.Final, s.Best, s.Has, s.Forced = final, api.Update{}, false, true
	return s
}

// P14.4: the chapter's example.
func TestForceAtOnce(t *testing.T) {
	b := bootOf(5, 1)
	s, e := light.Begin(ownRoot(b), b)
	if e != api.OK {
		t.Fatalf("Begin: error %d", e)
	}
	expectNoForce(t, "at once", s, 5)
	expectNoForce(t, "without a best one", s, 70)
	expectNoForce(t, "without a best one", s, greatest)
	expectNoForce(t, "nothing", api.Store{}, 65)
}

// P14.4: now is above Final's slot and 64, near the greatest number too.
func TestForceSlots(t *testing.T) {
	for _, c := range []struct {
		final, now uint64
		want       bool
	}{
		{5, 70, true}, {5, 69, false}, {5, 68, false}, {5, 6, false}, {5, 5, false}, {5, 4, false}, {5, 0, false}, {5, greatest, true},
		{0, 64, false}, {0, 65, true}, {0, 0, false}, {0, greatest, true},
		{63, 127, false}, {63, 128, true}, {64, 128, false}, {64, 129, true},
		{1 << 63, 1<<63 + 64, false}, {1 << 63, 1<<63 + 65, true}, {1 << 63, 65, false}, {1 << 63, 0, false},
		{greatest - 65, greatest, true}, {greatest - 65, greatest - 1, false}, {greatest - 64, greatest, false},
		{greatest - 64, 0, false}, {greatest - 64, 70, false}, {greatest - 63, greatest, false}, {greatest - 63, 1, false}, {greatest - 63, 70, false},
		{greatest - 1, greatest, false}, {greatest - 1, 63, false}, {greatest - 1, 64, false}, {greatest - 1, 1000, false},
		{greatest, greatest, false}, {greatest, 0, false}, {greatest, 63, false}, {greatest, 64, false}, {greatest, 65, false}, {greatest, greatest - 1, false},
	} {
		// Seen and Final are below the store's, so that nothing else comes of it than that it is forced.
		s := storeOf(c.final, 1, 2)
		s.Best, s.Has = api.Update{}, true
		if c.want {
			expectForce(t, fmt.Sprint(c), s, c.now, forced(s, s.Final))
		} else {
			expectNoForce(t, fmt.Sprint(c), s, c.now)
		}
		s.Has, s.Best = false, good().update()
		expectNoForce(t, fmt.Sprint(c, ", without a best one"), s, c.now)
	}
}

// P14.4: a best one whose Final is above the store's is taken over with it, any other one with Seen as Final.
func TestForceFinal(t *testing.T) {
	p := stays(10)
	for final := range uint64(10) {
		p.final = final
		s := forcible(5, 0, p)
		want := forced(s, s.Best.Seen)
		if final > 5 {
			want = forced(s, s.Best.Final)
		}
		want.Next = s.Best.Next
		expectForce(t, fmt.Sprint("final at ", final), s, 70, want)
	}
	p.isFinal = false
	s := forcible(5, 0, p)
	want := forced(s, s.Best.Seen)
	want.Next = s.Best.Next
	expectForce(t, "not final", s, 70, want)
	s.Newest = lightOf(9, zeros)
	want.Newest = s.Newest
	expectForce(t, "not final, the newest one of the same slot", s, 70, want)
	s.Newest = lightOf(8, zeros)
	want.Newest = s.Best.Seen
	expectForce(t, "not final, the newest one below", s, 70, want)
}

// P14.4: Next, of the period of what becomes final.
func TestForceNext(t *testing.T) {
	// Not known, and of the store's period.
	s := forcible(5, 0, plan{seen: 9, slot: 10, bits: bitsOf(3), by: 1})
	expectForce(t, "without one, not known", s, 70, forced(s, s.Best.Seen))
	// Known, and of the store's period.
	s = forcible(5, 2, plan{seen: 63, slot: 64, next: 2, bits: bitsOf(3), by: 2})
	expectForce(t, "known", s, 70, forced(s, s.Best.Seen))
	// Known, and of the next period: by Seen, or by Final.
	for _, next := range []int{0, 3} {
		s = forcible(5, 2, plan{seen: 64, slot: 65, next: next, bits: bitsOf(3), by: 2})
		want := forced(s, s.Best.Seen)
		want.Now, want.Next, want.Last, want.This = s.Next, s.Best.Next, 9, 0
		expectForce(t, fmt.Sprint("Seen of the next period, with ", next), s, 70, want)
		s = forcible(5, 2, plan{seen: 70, slot: 71, isFinal: true, final: 66, next: next, bits: bitsOf(3), by: 2})
		want = forced(s, s.Best.Final)
		want.Now, want.Next, want.Last, want.This = s.Next, s.Best.Next, 9, 0
		expectForce(t, fmt.Sprint("Final of the next period, with ", next), s, 80, want)
		s = forcible(5, 2, plan{seen: 70, slot: 71, isFinal: true, final: 63, next: next, bits: bitsOf(3), by: 2})
		want = forced(s, s.Best.Final)
		expectForce(t, fmt.Sprint("Final of the store's, Seen of the next period, with ", next), s, 80, want)
		s = forcible(5, 2, plan{seen: 70, slot: 71, isFinal: true, final: 5, next: next, bits: bitsOf(3), by: 2})
		want = forced(s, s.Best.Seen)
		want.Now, want.Next, want.Last, want.This = s.Next, s.Best.Next, 9, 0
		expectForce(t, fmt.Sprint("Final not above the store's, with ", next), s, 80, want)
	}
}

// P14.4: a best one that is of the period, but not above the store's, gives Next all the same; one of the period ahead does not.
func TestForceNotAbove(t *testing.T) {
	for _, c := range []struct {
		seen uint64
		want int
	}{{66, 2}, {65, 2}, {64, 2}, {63, 0}, {0, 0}} {
		s := forcible(66, 0, plan{seen: c.seen, slot: 70, next: 2, bits: bitsOf(3), by: 1})
		want := forced(s, s.Final)
		want.Next = committee(c.want)
		expectForce(t, fmt.Sprint("Seen at ", c.seen), s, 131, want)
		s.Next = committee(3)
		want.Next = committee(3)
		expectForce(t, fmt.Sprint("Seen at ", c.seen, ", Next known"), s, 131, want)
	}
}

// P14.4: Newest is another one only together with Final, though it stood below the store's.
func TestForceNewest(t *testing.T) {
	for _, c := range []struct {
		final, newest, best, seen, wantFinal, wantNewest uint64
	}{
		{1, 0, 0, 0, 1, 0},
		{10, 4, 9, 10, 10, 4}, {10, 4, 0, 7, 10, 4}, {10, 4, 10, 10, 10, 4}, {10, 4, 4, 5, 10, 4}, {10, 9, 8, 10, 10, 9}, {10, 10, 8, 10, 10, 10},
		{10, 4, 9, 11, 11, 11}, {10, 10, 9, 11, 11, 11}, {10, 11, 9, 11, 11, 11}, {10, 12, 9, 11, 11, 12},
		{10, 4, 12, 13, 12, 12}, {10, 11, 12, 13, 12, 12}, {10, 12, 12, 13, 12, 12}, {10, 20, 12, 13, 12, 20},
	} {
		for _, known := range []int{0, 2} {
			s := forcible(c.final, known, plan{seen: c.seen, slot: 20, isFinal: true, final: c.best, bits: bitsOf(3), by: 1})
			s.Newest = lightOf(c.newest, zeros)
			want := s
			want.Best, want.Has, want.Forced = api.Update{}, false, true
			if c.wantFinal != c.final {
				want.Final = lightOf(c.wantFinal, made(32, 8))
			}
			if c.wantFinal == c.seen && c.seen != c.final {
				want.Final = s.Best.Seen
			}
			if c.wantNewest != c.newest {
				want.Newest = want.Final
			}
			expectForce(t, fmt.Sprint(c, ", with ", known), s, c.final+65, want)
		}
	}
	// Nor is it another one where the committees go on alone.
	s := forcible(66, 0, plan{seen: 65, slot: 70, next: 2, bits: bitsOf(3), by: 1})
	s.Newest = lightOf(3, zeros)
	want := s
	want.Next, want.Best, want.Has, want.Forced = committee(2), api.Update{}, false, true
	expectForce(t, "Next alone", s, 131, want)
}

// P14.4: stores that came from nowhere: more than one period gone over leaves the committees.
func TestForceOdd(t *testing.T) {
	p := plan{seen: 140, slot: 141, next: 3, bits: bitsOf(3), by: 2}
	s := forcible(5, 2, p)
	expectForce(t, "two periods, Next known", s, 200, forced(s, s.Best.Seen))
	s = forcible(5, 0, p)
	expectForce(t, "two periods, Next not known", s, 200, forced(s, s.Best.Seen))
	p.seen, p.slot = 70, 71
	s = forcible(5, 0, p)
	expectForce(t, "one period, Next not known", s, 200, forced(s, s.Best.Seen))
	s = forcible(5, 2, p)
	s.Forced = true
	want := forced(s, s.Best.Seen)
	want.Now, want.Next, want.Last, want.This = s.Next, s.Best.Next, 9, 0
	expectForce(t, "forced twice", s, 200, want)
}
