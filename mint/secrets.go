package mint

import (
	"iter"

	"pharos/api"
	"pharos/head"
	"pharos/sha"
	"pharos/sign"
	"pharos/ssz"
)

const (
	everyone  = 1<<api.Members - 1 // the bits of all members
	firstFork = 7                  // the number in the text that is signed, till the first fork
	lastFork  = 9                  // and behind the last one that it tells
)

// members goes through the secrets of those whose bits are set.
func members(secrets []uint64, bits uint64) iter.Seq[uint64] {
	return func(yield func(uint64) bool) {
		for i, secret := range secrets {
			if bits>>i&1 == 1 && !yield(secret) {
				return
			}
		}
	}
}

// summedUp are the points' bytes that secrets lead to, in their order, and the sum of these; or that one leads to none.
func summedUp(secrets iter.Seq[uint64], lead func(secret uint64) (string, api.Errno)) ([]string, string, api.Errno) {
	var points []string
	var wrong api.Errno
leading:
	for secret := range secrets {
		point, e := lead(secret)
		if e != api.OK {
			wrong = e
			break leading
		}
		points = append(points, point)
	}
	if wrong != api.OK {
		return nil, "", wrong
	}
	sum, e := sign.Sum(points)
	return points, sum, e
}

// signed is the signature of a plan's members that sign, of the header that is seen.
func signed(p api.Plan, seen api.Header) string {
	what := text(seen, p.Slot)
	// The secrets have led to keys, and so they lead to signatures.
	_, sum, _ := summedUp(members(p.Now, p.Bits), func(secret uint64) (string, api.Errno) {
		return sign.Sign(secret, what)
	})
	return sum
}

// text is what is signed of a header that has a root, in a slot.
func text(h api.Header, slot uint64) string {
	root, _ := head.Root(h)
	// Below the slot 0 there is none, and no whole forks are behind it.
	forks := (max(slot, 1) - 1) / api.Fork
	return sha.Sum(root, ssz.Number(min(firstFork+forks, lastFork)))
}
