package light

import (
	"iter"

	"pharos/api"
)

// merit is one by which an update may be better: that it has something, or, where both have it, or neither, that there is more to it.
type merit struct {
	has  bool
	more uint64
}

// Better tells whether a is better than b.
func Better(a, b api.Update) bool {
	better := false
deciding:
	for mine, other := range against(a, b) {
		if mine != other {
			better = mine.isOver(other)
			break deciding
		}
	}
	return better
}

func (m merit) isOver(other merit) bool {
	return pick(m.has == other.has, m.more > other.more, m.has)
}

// against goes through the merits of two updates, side by side.
func against(a, b api.Update) iter.Seq2[merit, merit] {
	return func(yield func(merit, merit) bool) {
		others := merits(b)
		for i, mine := range merits(a) {
			if !yield(mine, others[i]) {
				return
			}
		}
	}
}

// merits are an update's, the weightiest first.
func merits(u api.Update) []merit {
	many, seen := uint64(count(u)), u.Seen.Beacon.Slot
	ownPeriod := isFinal(u) && samePeriod(u.Final, u.Seen)
	return []merit{
		// How many sign weighs most only where these are too few.
		{has: twoThirds(u), more: pick(twoThirds(u), 0, many)},
		{has: hasNext(u) && period(seen) == period(u.Slot)},
		{has: isFinal(u), more: pick[uint64](ownPeriod, 1, 0)},
		{more: many},
		// Less is better: with all bits turned it is more.
		{more: ^seen},
		{more: ^u.Slot},
	}
}
