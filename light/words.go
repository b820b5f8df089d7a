package light

import (
	"iter"

	"pharos/api"
)

// period is a slot's.
func period(slot uint64) uint64 { return slot / api.Period }

// periodOf is that of a Light's slot.
func periodOf(l api.Light) uint64 { return period(l.Beacon.Slot) }

func samePeriod(a, b api.Light) bool { return periodOf(a) == periodOf(b) }

// isAbove tells whether a's slot is above b's.
func isAbove(a, b api.Light) bool { return a.Beacon.Slot > b.Beacon.Slot }

// isKnown tells whether a store's next committee is.
func isKnown(next api.Committee) bool { return len(next.Keys) > 0 }

// signing goes through the members of a committee that sign an update, by their places.
func signing(u api.Update) iter.Seq[int] {
	return func(yield func(int) bool) {
		for i := range api.Members {
			if u.Bits>>i&1 == 1 && !yield(i) {
				return
			}
		}
	}
}

// count is as many as sign an update.
func count(u api.Update) int {
	many := 0
	for range signing(u) {
		many++
	}
	return many
}

// twoThirds tells whether at least so many sign an update.
func twoThirds(u api.Update) bool { return 3*count(u) >= 2*api.Members }

// hasNext tells whether an update has a next committee, right or not.
func hasNext(u api.Update) bool { return len(u.Next.Keys) > 0 || len(u.NextBranch) > 0 }

// isFinal tells whether an update makes a header final, right or not.
func isFinal(u api.Update) bool { return len(u.FinalBranch) > 0 || !isEmpty(u.Final) }

func isEmpty(l api.Light) bool {
	return l.Beacon == api.Header{} && l.Exec == api.Exec{} && len(l.Branch) == 0
}

// pick is one of two.
func pick[T any](first bool, a, b T) T {
	if first {
		return a
	}
	return b
}
