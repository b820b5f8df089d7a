package light_test

import (
	"fmt"
	"testing"

	"pharos/api"
)

// stays is a plan whose update a store of the slot 5 keeps as the best one: so many sign that it is not taken over.
func stays(many int) plan {
	p := good()
	p.bits = bitsOf(many)
	return p
}

// notTaken is the store behind an update that is only the best one, with so many that sign.
func notTaken(s api.Store, u api.Update, many int) api.Store {
	s.Best, s.Has, s.This = u, true, many
	s.Newest = u.Seen
	return s
}

// P14.3: the first update that is not taken over is the best one.
func TestApplyFirst(t *testing.T) {
	for many := 1; many < 11; many++ {
		u := stays(many).update()
		s := storeOf(5, 1, 0)
		expectApply(t, fmt.Sprint(many), s, u, 10, notTaken(s, u, many))
		s.Best = good().update() // which there is not, without Has
		expectApply(t, fmt.Sprint(many, ", beside one that there is not"), s, u, 10, notTaken(s, u, many))
	}
}

// P14.3: a better one becomes the best one; one that is not leaves the one there was.
func TestApplyBest(t *testing.T) {
	six, seven := stays(6).update(), stays(7).update()
	s := notTaken(storeOf(5, 1, 0), six, 6)
	want := notTaken(s, seven, 7)
	expectApply(t, "a better one", s, seven, 10, want)
	s = notTaken(storeOf(5, 1, 0), seven, 7)
	expectApply(t, "one that is not better", s, six, 10, s)
	expectApply(t, "the same", s, seven, 10, s)
	other := stays(7)
	other.bits = 0x7f00
	expectApply(t, "one that is as good", s, other.update(), 10, s)
	other.slot = 11
	expectApply(t, "one of a later slot", s, other.update(), 11, s)
	other.seen = 8
	u := other.update()
	want = notTaken(s, u, 7)
	want.Newest = s.Newest
	expectApply(t, "one that saw an earlier header", s, u, 11, want)
}

// P14.3: This is as many as sign, if that is more; Last stays.
func TestApplyThis(t *testing.T) {
	for _, c := range []struct{ last, this, many, want int }{
		{0, 0, 1, 1}, {0, 5, 4, 5}, {0, 5, 5, 5}, {0, 5, 6, 6}, {16, 5, 6, 6}, {16, 16, 10, 16}, {3, 9, 10, 10}, {3, 11, 10, 11},
		{-7, -5, 1, 1}, {1 << 40, 1 << 41, 10, 1 << 41},
	} {
		s := storeOf(5, 1, 0)
		s.Newest = lightOf(400, zeros)
		s.Last, s.This = c.last, c.this
		u := stays(c.many).update()
		want := s
		want.Best, want.Has, want.This = u, true, c.want
		expectApply(t, fmt.Sprint(c), s, u, 10, want)
	}
	s := storeOf(5, 1, 0)
	s.This = 12
	p := good()
	p.bits |= greatest &^ everyone
	u := p.update()
	want := s
	want.Final, want.Newest, want.Next = u.Final, u.Seen, u.Next
	expectApply(t, "bits above the lowest 16", s, u, 10, want)
}

// P14.3: Seen is the newest one, if more sign than the half of the greater one of Last and This, that with these who sign.
func TestApplyNewest(t *testing.T) {
	for _, c := range []struct {
		last, this, many int
		want             bool
	}{
		{0, 0, 1, true}, {0, 1, 1, true}, {0, 2, 1, false}, {0, 3, 1, false}, {0, 3, 2, true}, {0, 4, 2, false}, {0, 5, 2, false},
		{2, 0, 1, false}, {3, 0, 1, false}, {3, 0, 2, true},
		{16, 0, 8, false}, {16, 0, 9, true}, {15, 0, 8, true}, {15, 0, 7, false}, {17, 0, 8, false}, {17, 0, 9, true},
		{0, 16, 8, false}, {0, 16, 9, true}, {16, 16, 8, false}, {10, 16, 9, true}, {16, 10, 9, true}, {16, 10, 8, false},
		{10, 10, 6, true}, {10, 10, 5, false}, {11, 10, 6, true}, {11, 10, 5, false}, {12, 11, 6, false},
		{20, 0, 10, false}, {21, 4, 10, false}, {19, 4, 10, true}, {-9, -30, 1, true},
	} {
		s := storeOf(5, 1, 0)
		s.Last, s.This = c.last, c.this
		u := stays(c.many).update()
		want := notTaken(s, u, max(c.many, c.this))
		if !c.want {
			want.Newest = s.Newest
		}
		expectApply(t, fmt.Sprint(c), s, u, 10, want)
	}
}

// P14.3: Seen is the newest one only above the newest one there was.
func TestApplyNewestSlot(t *testing.T) {
	u := stays(10).update()
	for _, c := range []struct {
		newest uint64
		want   bool
	}{{0, true}, {7, true}, {8, true}, {9, false}, {10, false}, {greatest, false}} {
		s := storeOf(5, 1, 0)
		s.Newest = lightOf(c.newest, zeros)
		want := notTaken(s, u, 10)
		if !c.want {
			want.Newest = s.Newest
		}
		expectApply(t, fmt.Sprint(c), s, u, 10, want)
	}
}

// taken is the store of the slot 5 behind an update that was taken over, with so many that sign.
func taken(s api.Store, u api.Update, many int) api.Store {
	s.Final, s.Newest, s.Next, s.This = u.Final, u.Seen, u.Next, many
	s.Best, s.Has = api.Update{}, false
	return s
}

// P14.3: two thirds take an update over that tells a later final header; one fewer don't.
func TestApplyTakenOver(t *testing.T) {
	for many := 1; many <= 16; many++ {
		p := good()
		p.bits = everyone &^ bitsOf(16-many)
		u, s := p.update(), storeOf(5, 1, 0)
		want := taken(s, u, many)
		if many < 11 {
			want = notTaken(s, u, many)
		}
		expectApply(t, fmt.Sprint(many), s, u, 10, want)
		s.Best, s.Has = stays(10).update(), true
		if many >= 11 {
			expectApply(t, fmt.Sprint(many, ", beside a best one"), s, u, 10, want)
		}
	}
	// Without Last and This the half is small; who signs, though not the half, still takes over: then Final may be the newest one.
	s, u := storeOf(5, 1, 0), good().update()
	s.Last = 22
	want := taken(s, u, 11)
	want.Newest = u.Final
	expectApply(t, "not the half", s, u, 10, want)
	s.Newest = lightOf(7, zeros)
	want.Newest = s.Newest
	expectApply(t, "not the half, nor a later final one than the newest", s, u, 10, want)
	s.Newest = lightOf(6, zeros)
	want.Newest = u.Final
	expectApply(t, "not the half, but a later final one than the newest", s, u, 10, want)
}

// P14.3: what two thirds sign is taken over, if its final header is above the store's, or if it gives the next committee, finally, that the store has not got.
func TestApplyWhenTakenOver(t *testing.T) {
	for _, c := range []struct {
		name  string
		final uint64
		known int
		plan  plan
		taken bool
	}{
		{"above, known", 5, 2, plan{seen: 9, slot: 10, isFinal: true, final: 6, bits: everyone, by: 1}, true},
		{"the same, known", 5, 2, plan{seen: 9, slot: 10, isFinal: true, final: 5, next: 2, bits: everyone, by: 1}, false},
		{"below, known", 5, 2, plan{seen: 9, slot: 10, isFinal: true, final: 4, next: 2, bits: everyone, by: 1}, false},
		{"not final, known", 5, 2, plan{seen: 9, slot: 10, next: 2, bits: everyone, by: 1}, false},
		{"above, not known, without", 5, 0, plan{seen: 9, slot: 10, isFinal: true, final: 6, bits: everyone, by: 1}, true},
		{"the same, not known, without", 5, 0, plan{seen: 9, slot: 10, isFinal: true, final: 5, bits: everyone, by: 1}, false},
		{"the same, not known, with one", 5, 0, plan{seen: 9, slot: 10, isFinal: true, final: 5, next: 2, bits: everyone, by: 1}, true},
		{"below, not known, with one", 5, 0, plan{seen: 9, slot: 10, isFinal: true, final: 0, next: 2, bits: everyone, by: 1}, true},
		{"not final, not known, with one", 5, 0, plan{seen: 9, slot: 10, next: 2, bits: everyone, by: 1}, false},
		{"the period ahead, not known, with one", 66, 0, plan{seen: 70, slot: 71, isFinal: true, final: 63, next: 2, bits: everyone, by: 1}, false},
		{"the period's first, not known, with one", 66, 0, plan{seen: 70, slot: 71, isFinal: true, final: 64, next: 2, bits: everyone, by: 1}, true},
		{"the same, not known, with one, ten sign", 5, 0, plan{seen: 9, slot: 10, isFinal: true, final: 5, next: 2, bits: bitsOf(10), by: 1}, false},
		{"Seen below, not known, with one", 66, 0, plan{seen: 65, slot: 71, isFinal: true, final: 64, next: 2, bits: everyone, by: 1}, true},
		{"Seen below, not known, with one, not final", 66, 0, plan{seen: 65, slot: 71, next: 2, bits: everyone, by: 1}, false},
	} {
		s, u := storeOf(c.final, 1, c.known), c.plan.update()
		want := notTaken(s, u, 16)
		if c.plan.bits != everyone {
			want.This = 10
		}
		if c.taken {
			want.Best, want.Has = api.Update{}, false
			if c.known == 0 {
				want.Next = u.Next
			}
		}
		if c.taken && c.plan.final > c.final {
			want.Final = u.Final
		}
		if c.plan.seen < c.final {
			want.Newest = s.Newest
		}
		expectApply(t, c.name, s, u, 100, want)
	}
}

// P14.3: what is taken over for its next committee, its final header not above the store's, makes Newest another one only by those that sign.
func TestApplyNewestStays(t *testing.T) {
	for _, c := range []struct {
		newest, final, seen uint64
		last                int
		want                bool
	}{
		{4, 9, 12, 22, false}, {4, 10, 12, 22, false}, {0, 0, 11, 22, false}, {9, 10, 12, 22, false}, {10, 9, 12, 22, false},
		{4, 9, 12, 0, true}, {4, 10, 12, 0, true}, {9, 7, 10, 0, true}, {9, 7, 8, 0, false}, {9, 7, 9, 0, false},
	} {
		p := plan{seen: c.seen, slot: 20, isFinal: true, final: c.final, next: 2, bits: bitsOf(11), by: 1}
		s, u := storeOf(10, 1, 0), p.update()
		s.Newest, s.Last = lightOf(c.newest, zeros), c.last
		want := taken(s, u, 11)
		want.Final = s.Final
		if !c.want {
			want.Newest = s.Newest
		}
		expectApply(t, fmt.Sprint(c), s, u, 20, want)
	}
}

// P14.3: a final header that only a sum of a next committee stands beside gives none.
func TestApplySumAlone(t *testing.T) {
	p := plan{seen: 9, slot: 10, isFinal: true, final: 5, bits: everyone, by: 1}
	s, u := storeOf(5, 1, 0), p.update()
	u.Next.Sum = "sum"
	expectApply(t, "the same slot", s, u, 10, notTaken(s, u, 16))
}

// P14.3: where Next is known an update of the store's period leaves the committees.
func TestApplyKnown(t *testing.T) {
	s, p := storeOf(5, 1, 2), good()
	for _, next := range []int{0, 2} {
		p.next = next
		u := p.update()
		want := taken(s, u, 11)
		want.Next, want.Last = s.Next, 4
		s.Last, s.This = 4, 6
		expectApply(t, fmt.Sprint("with ", next), s, u, 10, want)
	}
	// Of the next period, but Final of the store's.
	p = plan{seen: 66, slot: 67, isFinal: true, final: 63, next: 3, bits: everyone, by: 2}
	u := p.update()
	want := taken(s, u, 16)
	want.Next = s.Next
	expectApply(t, "signed in the next period", s, u, 67, want)
}

// P14.3: with a final header of the next period that is gone over to: Now is Next, Next is the update's, Last is This, This is 0.
func TestApplyPeriod(t *testing.T) {
	for _, next := range []int{0, 3} {
		for _, final := range []uint64{64, 66, 70} {
			p := plan{seen: 70, slot: 71, isFinal: true, final: final, next: next, bits: bitsOf(12), by: 2}
			s, u := storeOf(63, 1, 2), p.update()
			s.Last, s.This = 3, 9
			s.Best, s.Has = stays(10).update(), true
			want := taken(s, u, 0)
			want.Now, want.Last = s.Next, 12
			expectApply(t, fmt.Sprint("final at ", final, ", with ", next), s, u, 100, want)
			s.This = 14
			want.Last = 14
			expectApply(t, fmt.Sprint("final at ", final, ", with ", next, ", more signed ahead"), s, u, 100, want)
		}
	}
}

// P14.3: periods near the greatest number.
func TestApplyLastPeriod(t *testing.T) {
	p := plan{seen: greatest - 1, slot: greatest, isFinal: true, final: greatest - 2, next: 3, bits: everyone, by: 2}
	s, u := storeOf(greatest-64, 1, 2), p.update()
	want := taken(s, u, 0)
	want.Now, want.Last = s.Next, 16
	expectApply(t, "the last period", s, u, greatest, want)
}

// P14.3: what is refused leaves the store as it was, whatever is in it.
func TestApplyRefused(t *testing.T) {
	s := storeOf(5, 1, 2)
	s.Best, s.Last, s.This, s.Forced = good().update(), 3, -4, true
	for _, has := range []bool{false, true} {
		s.Has = has
		for _, one := range spoils()[:4] {
			x := trial{s, good().update(), 1000}
			one.do(&x)
			expectCheck(t, one.name, x.s, x.u, x.now, one.want)
		}
		odd := s
		odd.Now, odd.Next.Keys, odd.Final = api.Committee{Sum: "s"}, []string{"", "x"}, api.Light{Branch: []string{"odd"}}
		u := good().update()
		u.Sig = ""
		expectCheck(t, "an odd store", odd, u, 10, api.ErrNext)
		u.Next, u.NextBranch = api.Committee{}, nil
		expectCheck(t, "an odd store", odd, u, 10, api.ErrSig)
	}
}

// P14.3: that it was forced stays.
func TestApplyForced(t *testing.T) {
	s, u := storeOf(5, 1, 0), good().update()
	s.Forced = true
	expectApply(t, "taken over", s, u, 10, taken(s, u, 11))
	u = stays(10).update()
	expectApply(t, "not taken over", s, u, 10, notTaken(s, u, 10))
}
