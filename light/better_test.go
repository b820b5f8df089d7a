package light_test

import (
	"fmt"
	"slices"
	"testing"

	"pharos/api"
	"pharos/light"
)

// short is an update that Better may be asked about: it need not be right.
func short(bits uint64, seen, slot uint64, next bool, final int) api.Update {
	u := api.Update{Bits: bits, Slot: slot}
	u.Seen.Beacon.Slot = seen
	if next {
		u.NextBranch = []string{zeros}
	}
	if final >= 0 {
		u.Final.Beacon.Slot = uint64(final)
		u.FinalBranch = []string{zeros}
	}
	return u
}

// P14.2: updates that differ in one thing alone: the first one is better.
func TestBetterByOne(t *testing.T) {
	for _, c := range []struct {
		name string
		a, b api.Update
	}{
		{"eleven and ten", short(bitsOf(11), 9, 10, true, 7), short(bitsOf(10), 9, 10, true, 7)},
		{"ten and nine", short(bitsOf(10), 9, 10, true, 7), short(bitsOf(9), 9, 10, true, 7)},
		{"six and five", short(bitsOf(6), 9, 10, true, 7), short(bitsOf(5), 9, 10, true, 7)},
		{"one and none", short(bitsOf(1), 9, 10, true, 7), short(0, 9, 10, true, 7)},
		{"twelve and eleven", short(bitsOf(12), 9, 10, true, 7), short(bitsOf(11), 9, 10, true, 7)},
		{"all and fifteen", short(everyone, 9, 10, true, 7), short(everyone-1, 9, 10, true, 7)},
		{"with a next committee, and without", short(everyone, 9, 10, true, 7), short(everyone, 9, 10, false, 7)},
		{"final, and not", short(everyone, 9, 10, true, 7), short(everyone, 9, 10, true, -1)},
		{"Final of Seen's period, and of the one ahead", short(everyone, 70, 71, true, 64), short(everyone, 70, 71, true, 63)},
		{"Seen less", short(everyone, 8, 10, true, 7), short(everyone, 9, 10, true, 7)},
		{"Seen of 0", short(everyone, 0, 10, true, 0), short(everyone, 1, 10, true, 0)},
		{"Slot less", short(everyone, 9, 10, true, 7), short(everyone, 9, 11, true, 7)},
		{"Seen greatest", short(everyone, greatest-1, greatest, true, 7), short(everyone, greatest, greatest, true, 7)},
		{"Slot greatest", short(everyone, greatest-1, greatest-1, true, 7), short(everyone, greatest-1, greatest, true, 7)},
		{"a next committee of its period, and of another", short(everyone, 63, 63, true, 0), short(everyone, 63, 64, true, 0)},
		{"nothing, and a Slot", api.Update{}, api.Update{Slot: 1}},
	} {
		expectBetter(t, c.name, c.a, c.b)
	}
}

// P14.2: ten and eleven are not alike in whether two thirds sign; eleven and sixteen are.
func TestBetterTwoThirds(t *testing.T) {
	for many := 1; many <= 16; many++ {
		for other := 1; other <= 16; other++ {
			// The one with fewer has all that weighs less than how many of too few sign, but more than how many of enough.
			a, b := short(bitsOf(many), 9, 10, false, -1), short(bitsOf(other), 9, 10, true, -1)
			name := fmt.Sprint(many, " without a next committee, ", other, " with one")
			switch {
			case many >= 11 && other < 11:
				expectBetter(t, name, a, b)
			case many < 11 && other < 11 && many > other:
				expectBetter(t, name, a, b)
			default:
				expectBetter(t, name, b, a)
			}
		}
	}
}

// P14.2: which members sign, and bits above the lowest 16, weigh nothing.
func TestBetterBits(t *testing.T) {
	for _, many := range []int{0, 1, 8, 10, 11, 15, 16} {
		low := bitsOf(many)
		a := short(low, 9, 10, true, 7)
		for _, bits := range []uint64{low << (16 - many), low | 65536, low | greatest&^everyone} {
			expectAlike(t, fmt.Sprintf("%x and %x", low, bits), a, short(bits, 9, 10, true, 7))
		}
		if many < 16 {
			expectBetter(t, "one more, and bits above", short(bitsOf(many+1), 9, 10, true, 7), short(low|greatest&^everyone, 9, 10, true, 7))
		}
	}
}

// P14.2: two that are alike in all of these are none better, whatever else they have.
func TestBetterAlike(t *testing.T) {
	a := good().update()
	expectAlike(t, "the same", a, a)
	expectAlike(t, "nothing", api.Update{}, api.Update{})
	for name, do := range map[string]func(u *api.Update){
		"another signature":      func(u *api.Update) { u.Sig = "" },
		"other members":          func(u *api.Update) { u.Bits = everyone &^ bitsOf(5) },
		"another next committee": func(u *api.Update) { u.Next = committee(3) },
		"of next the branch":     func(u *api.Update) { u.Next = api.Committee{} },
		"of next the keys":       func(u *api.Update) { u.NextBranch = nil },
		"another Final":          func(u *api.Update) { u.Final = lightOf(3, zeros) },
		"Final's branch alone":   func(u *api.Update) { u.Final = api.Light{} },
		"Final without a branch": func(u *api.Update) { u.FinalBranch = nil },
		"another Seen":           func(u *api.Update) { u.Seen = lightOf(9, zeros) },
		"Seen's slot alone":      func(u *api.Update) { u.Seen = api.Light{Beacon: api.Header{Slot: 9}} },
	} {
		b := good().update()
		do(&b)
		expectAlike(t, name, a, b)
	}
	sum := short(everyone, 9, 10, false, -1)
	sum.Next.Sum = "sum"
	expectAlike(t, "a sum is no next committee", sum, short(everyone, 9, 10, false, -1))
	// Of two that are not final Final's period weighs nothing: 0, in which Seen's may be.
	expectBetter(t, "not final, Seen less", short(everyone, 63, 64, false, -1), short(everyone, 64, 64, false, -1))
	expectBetter(t, "not final, Seen less, in another period", short(everyone, 64, 200, false, -1), short(everyone, 128, 200, false, -1))
	expectBetter(t, "not final, more sign", short(everyone, 64, 200, false, -1), short(bitsOf(15), 5, 200, false, -1))
}

// P14.2: a next committee for another period than its own weighs nothing.
func TestBetterNextOfAnotherPeriod(t *testing.T) {
	a, b := short(everyone, 63, 64, true, -1), short(everyone, 63, 64, false, -1)
	expectAlike(t, "with one, of the period ahead", a, b)
	expectBetter(t, "final", short(everyone, 63, 64, false, 5), a)
	expectBetter(t, "with one, of its own", short(everyone, 64, 64, true, -1), a)
	expectBetter(t, "with one, of its own", short(everyone, 62, 63, true, -1), short(everyone, 62, 64, true, 5))
}

// ranked are updates of which each weighs more than the next one, by a thing that weighs more than all in which the next one is better.
func ranked() []api.Update {
	return []api.Update{
		short(everyone, 64, 65, true, 64),
		short(everyone, 64, 66, true, 64),
		short(everyone, 66, 67, true, 64),
		short(bitsOf(15), 64, 65, true, 64),
		short(bitsOf(11), 64, 65, true, 64),
		short(everyone, 64, 65, true, 63),
		short(bitsOf(11), 65, 66, true, 0),
		short(everyone, 64, 65, true, -1),
		short(bitsOf(12), 64, 65, true, -1),
		short(bitsOf(11), 3, 5, true, -1),
		short(bitsOf(11), 3, 6, true, -1),
		short(everyone, 3, 5, false, 0),
		short(everyone, 63, 64, true, 0),
		short(bitsOf(12), 70, 71, false, 64),
		short(bitsOf(12), 70, 71, false, 63),
		short(everyone, 0, 1, false, -1),
		short(everyone, 1, 2, false, -1),
		short(everyone, 63, 64, true, -1),
		short(bitsOf(14), 0, 64, true, -1),
		short(bitsOf(14), 1, 64, true, -1),
		short(bitsOf(14), 1, 65, true, -1),
		short(bitsOf(11), greatest, greatest, false, -1),
		short(bitsOf(10), 64, 65, true, 64),
		short(bitsOf(10), 0, 1, true, -1),
		short(bitsOf(10), 0, 1, false, 0),
		short(bitsOf(10), 70, 71, false, 0),
		short(bitsOf(10), 0, 1, false, -1),
		short(bitsOf(9), 64, 65, true, 64),
		short(bitsOf(5), 0, 1, true, 0),
		short(bitsOf(5), 0, 1, false, 0),
		short(bitsOf(1), 0, 1, true, 0),
		short(65536, 0, 1, true, 0),
		short(0, 0, 1, true, -1),
		short(0, 0, 1, false, 0),
		short(0, 0, 1, false, -1),
	}
}

// P14.2: each of them is better than all behind it, and no better than itself.
func TestBetterRanked(t *testing.T) {
	all := ranked()
	for i, a := range all {
		expectAlike(t, fmt.Sprint("the rank ", i), a, a)
		for j := i + 1; j < len(all); j++ {
			expectBetter(t, fmt.Sprint("the ranks ", i, " and ", j), a, all[j])
		}
	}
}

// weights are an update's, by the test's own reckoning, the heaviest first; more is better.
func weights(u api.Update) []int {
	many := 0
	for i := range 16 {
		if u.Bits&(1<<i) != 0 {
			many++
		}
	}
	yes := func(is bool) int {
		if is {
			return 1
		}
		return 0
	}
	seen, slot, final := int(u.Seen.Beacon.Slot), int(u.Slot), int(u.Final.Beacon.Slot)
	isFinal := len(u.FinalBranch) > 0 || !sameLight(u.Final, api.Light{})
	next := len(u.NextBranch) > 0 || len(u.Next.Keys) > 0
	return []int{
		min(many, 11), // up to two thirds more are better, above these all are alike
		yes(next && seen/64 == slot/64),
		yes(isFinal),
		yes(isFinal && final/64 == seen/64),
		many,
		-seen,
		-slot,
	}
}

// P14.2: all pairs of many updates, by their weights.
func TestBetterPairs(t *testing.T) {
	var all []api.Update
	for _, bits := range []uint64{0, bitsOf(5), 0xf000, bitsOf(10), bitsOf(11), bitsOf(12), everyone} {
		for _, slots := range [][2]uint64{{0, 1}, {62, 63}, {62, 64}, {63, 64}, {64, 65}, {70, 71}, {70, 128}} {
			for _, next := range []bool{false, true} {
				for _, final := range []int{-1, 0, 63, 64} {
					all = append(all, short(bits, slots[0], slots[1], next, final))
				}
			}
		}
	}
	for _, a := range all {
		for _, b := range all {
			if got, want := light.Better(a, b), slices.Compare(weights(a), weights(b)) > 0; got != want {
				t.Fatalf("Better of %v, and of %v: %v", weights(a), weights(b), got)
			}
		}
	}
}
