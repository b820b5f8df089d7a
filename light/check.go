package light

import (
	"slices"

	"pharos/api"
	"pharos/head"
	"pharos/sha"
	"pharos/sign"
	"pharos/ssz"
)

const (
	firstFork = 7 // the number in the text that is signed, till the first fork
	lastFork  = 9 // and behind the last one that it tells
)

// slotsFollow tells whether an update's slots do, up to now. One that is not final has an empty Final, of the slot 0.
func slotsFollow(u api.Update, now uint64) bool {
	seen := u.Seen.Beacon.Slot
	return now >= u.Slot && u.Slot > seen && seen >= u.Final.Beacon.Slot
}

// periodIsKnown tells whether a store has the committee that must sign.
func periodIsKnown(s api.Store, u api.Update) bool {
	is, signed := periodOf(s.Final), period(u.Slot)
	return signed == is || isKnown(s.Next) && signed == is+1
}

// isNew tells whether an update tells a later header than a store's, or the next committee, which the store has not got.
func isNew(s api.Store, u api.Update) bool {
	return isAbove(u.Seen, s.Final) || !isKnown(s.Next) && hasNext(u) && samePeriod(u.Seen, s.Final)
}

// checkFinal tells what is wrong with the header that an update makes final, if it does.
func checkFinal(u api.Update) api.Errno {
	if !isFinal(u) {
		return api.OK
	}
	// What holds has a root.
	root, _ := head.Root(u.Final.Beacon)
	switch {
	case !head.Holds(u.Final):
		return api.ErrHead
	case !isLeaf(root, u.FinalBranch, api.FinalLeaf, u.Seen.Beacon.State):
		return api.ErrBranch
	}
	return api.OK
}

// checkNext tells what is wrong with an update's next committee, if it has one.
func checkNext(s api.Store, u api.Update) api.Errno {
	if !hasNext(u) {
		return api.OK
	}
	root, e := head.CommitteeRoot(u.Next)
	switch {
	case isKnown(s.Next) && samePeriod(u.Seen, s.Final) && !isSame(u.Next, s.Next):
		return api.ErrNext
	case e != api.OK:
		return api.ErrHead
	case !isLeaf(root, u.NextBranch, api.NextLeaf, u.Seen.Beacon.State):
		return api.ErrBranch
	}
	return api.OK
}

// isLeaf tells whether a branch, of just the depth of states, has root as its leaf, of that number, under a state.
func isLeaf(root string, branch []string, leaf uint64, state string) bool {
	return len(branch) == api.StateDepth && ssz.Check(root, branch, leaf, state)
}

// isSigned tells whether the signature of an update, whose header has a root, holds of the committee that must sign.
func isSigned(s api.Store, u api.Update) bool {
	root, _ := head.Root(u.Seen.Beacon)
	members := pick(period(u.Slot) == periodOf(s.Final), s.Now, s.Next)
	return sign.All(keys(members, u), text(root, u.Slot), u.Sig)
}

// text is what is signed of a header's root, in a slot. That is above the header's, and so not 0.
func text(root string, slot uint64) string {
	fork := firstFork + (slot-1)/api.Fork
	return sha.Sum(root, ssz.Number(min(fork, lastFork)))
}

// keys are those of a committee's members that sign an update. One that the committee has not got has no point's bytes as its key, so that nothing holds of them.
func keys(c api.Committee, u api.Update) []string {
	var l []string
	for i := range signing(u) {
		key := ""
		if i < len(c.Keys) {
			key = c.Keys[i]
		}
		l = append(l, key)
	}
	return l
}

// isSame tells whether two committees are.
func isSame(a, b api.Committee) bool {
	return a.Sum == b.Sum && slices.Equal(a.Keys, b.Keys)
}
