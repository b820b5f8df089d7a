package light_test

import (
	"crypto/sha256"
	"encoding/binary"
	"fmt"
	"slices"
	"strings"
	"sync"
	"testing"

	"pharos/api"
	"pharos/light"
	"pharos/sign"
)

// The tests make their own messages: roots and branches by the library's SHA-256, and the signature of many by the sum of their secrets.

const (
	greatest = uint64(1<<64 - 1)
	order    = uint64(api.Order)
	everyone = uint64(65535) // bits of all members
)

// zeros are 32 bytes 0.
var zeros = strings.Repeat("\x00", 32)

// bitsOf are those of so many members, the first ones.
func bitsOf(many int) uint64 { return 1<<many - 1 }

// made is a text of so many bytes, none of them 0; of another seed it is another one.
func made(size, seed int) string {
	b := make([]byte, size)
	for i := range b {
		b[i] = byte(1 + (i*7+seed*29)%255)
	}
	return string(b)
}

// changed is s with bits of one byte turned.
func changed(s string, at int, bits byte) string {
	b := []byte(s)
	b[at] ^= bits
	return string(b)
}

// with is l with another text at one place.
func with(l []string, at int, s string) []string {
	other := slices.Clone(l)
	other[at] = s
	return other
}

func plainSum(first, second string) string {
	sum := sha256.Sum256([]byte(first + second))
	return string(sum[:])
}

// plainTree are the rows of a tree, from the leaves on; what stands behind these are zeros.
func plainTree(depth int, leaves ...string) [][]string {
	row := append(slices.Clone(leaves), slices.Repeat([]string{zeros}, 1<<depth-len(leaves))...)
	rows := [][]string{row}
	for len(row) > 1 {
		var above []string
		for pair := range slices.Chunk(row, 2) {
			above = append(above, plainSum(pair[0], pair[1]))
		}
		row = above
		rows = append(rows, row)
	}
	return rows
}

func plainRoot(depth int, leaves ...string) string { return plainTree(depth, leaves...)[depth][0] }

func plainBranch(depth, leaf int, leaves ...string) []string {
	var branch []string
	for height, row := range plainTree(depth, leaves...)[:depth] {
		branch = append(branch, row[leaf>>height^1])
	}
	return branch
}

// plainNumber is a number's chunk.
func plainNumber(n uint64) string {
	return string(binary.LittleEndian.AppendUint64(nil, n)) + zeros[8:]
}

func plainHeaderRoot(h api.Header) string {
	return plainRoot(3, plainNumber(h.Slot), plainNumber(h.Proposer), h.Parent, h.State, h.Body)
}

func plainExecRoot(x api.Exec) string {
	return plainRoot(2, x.Accounts, x.Receipts, plainNumber(x.Number))
}

func plainCommitteeRoot(c api.Committee) string {
	var leaves []string
	for _, key := range c.Keys {
		leaves = append(leaves, key+zeros[5:])
	}
	return plainSum(plainRoot(4, leaves...), c.Sum+zeros[5:])
}

// plainText is what is signed of a header, with the number F.
func plainText(h api.Header, f uint64) string { return plainSum(plainHeaderRoot(h), plainNumber(f)) }

// plainFork is the number F of a slot: one more behind 128 slots, and behind as many again; no more behind these.
func plainFork(slot uint64) uint64 {
	switch {
	case slot <= 128:
		return 7
	case slot <= 256:
		return 8
	}
	return 9
}

const committees = 6

// secretsOf are those of a committee, by its number, from 1 on.
func secretsOf(number int) []uint64 {
	var l []uint64
	for n := range uint64(16) {
		l = append(l, 1000*uint64(number)+n*n+1)
	}
	return l
}

// madeCommittees are all, by their numbers; the one of the number 0 is empty.
var madeCommittees = sync.OnceValue(func() []api.Committee {
	l := make([]api.Committee, committees)
	for number := 1; number < committees; number++ {
		for _, secret := range secretsOf(number) {
			key, _ := sign.Key(secret)
			l[number].Keys = append(l[number].Keys, key)
		}
		l[number].Sum, _ = sign.Sum(l[number].Keys)
	}
	return l
})

func committee(number int) api.Committee {
	c := madeCommittees()[number]
	return api.Committee{Keys: slices.Clone(c.Keys), Sum: c.Sum}
}

// signed is the signature of a text by the members of a committee that the bits tell.
func signed(number int, bits uint64, text string) string {
	sum := uint64(0)
	for i, secret := range secretsOf(number) {
		if bits&(1<<i) != 0 {
			sum += secret
		}
	}
	sig, _ := sign.Sign(sum%order, text)
	return sig
}

// lightOf is a Light of a slot and a state; it holds.
func lightOf(slot uint64, state string) api.Light {
	x := api.Exec{Accounts: made(32, 1), Receipts: made(32, 2), Number: slot / 2}
	leaves := []string{made(32, 3), made(32, 4), plainExecRoot(x), made(32, 5)}
	h := api.Header{Slot: slot, Proposer: 3, Parent: made(32, 6), State: state, Body: plainRoot(2, leaves...)}
	return api.Light{Beacon: h, Exec: x, Branch: plainBranch(2, 2, leaves...)}
}

// bootOf is a Boot of a slot; it is right.
func bootOf(slot uint64, number int) api.Boot {
	leaves := []string{made(32, 11), made(32, 12), made(32, 13), made(32, 14), plainCommitteeRoot(committee(number)), made(32, 15)}
	return api.Boot{
		Light:  lightOf(slot, plainRoot(3, leaves...)),
		Now:    committee(number),
		Branch: plainBranch(3, 4, leaves...),
	}
}

// storeOf is a store of a slot, of whose two committees the numbers are told; the next one is not known, if its number is 0.
func storeOf(slot uint64, now, next int) api.Store {
	return api.Store{
		Final:  lightOf(slot, made(32, 7)),
		Newest: lightOf(slot, made(32, 7)),
		Now:    committee(now),
		Next:   committee(next),
	}
}

// plan is what an update is made of: its slots, the final one with its slot, or none, the next committee's number (0: none), who signs, of which committee.
type plan struct {
	seen, slot uint64
	isFinal    bool
	final      uint64
	next       int
	bits       uint64
	by         int
}

// update is that of a plan, its signature right.
func (p plan) update() api.Update {
	u := api.Update{Bits: p.bits, Slot: p.slot, Next: committee(p.next)}
	leaves := []string{made(32, 21), made(32, 22), made(32, 23), zeros, made(32, 24), zeros, made(32, 25)}
	if p.isFinal {
		u.Final = lightOf(p.final, made(32, 8))
		leaves[3] = plainHeaderRoot(u.Final.Beacon)
	}
	if p.next > 0 {
		leaves[5] = plainCommitteeRoot(u.Next)
	}
	if p.isFinal {
		u.FinalBranch = plainBranch(3, 3, leaves...)
	}
	if p.next > 0 {
		u.NextBranch = plainBranch(3, 5, leaves...)
	}
	u.Seen = lightOf(p.seen, plainRoot(3, leaves...))
	u.Sig = p.sign(u)
	return u
}

// sign is the right signature of a plan's update.
func (p plan) sign(u api.Update) string {
	return signed(p.by, u.Bits, plainText(u.Seen.Beacon, plainFork(u.Slot)))
}

// good is a plan whose update a store of the slot 5 takes over.
func good() plan {
	return plan{seen: 9, slot: 10, isFinal: true, final: 7, next: 2, bits: bitsOf(11), by: 1}
}

func sameLight(a, b api.Light) bool {
	return a.Beacon == b.Beacon && a.Exec == b.Exec && slices.Equal(a.Branch, b.Branch)
}

func sameCommittee(a, b api.Committee) bool { return slices.Equal(a.Keys, b.Keys) && a.Sum == b.Sum }

func sameUpdate(a, b api.Update) bool {
	return sameLight(a.Seen, b.Seen) && sameLight(a.Final, b.Final) && sameCommittee(a.Next, b.Next) &&
		slices.Equal(a.NextBranch, b.NextBranch) && slices.Equal(a.FinalBranch, b.FinalBranch) &&
		a.Bits == b.Bits && a.Sig == b.Sig && a.Slot == b.Slot
}

func sameStore(a, b api.Store) bool {
	return sameLight(a.Final, b.Final) && sameLight(a.Newest, b.Newest) &&
		sameCommittee(a.Now, b.Now) && sameCommittee(a.Next, b.Next) && sameUpdate(a.Best, b.Best) &&
		a.Has == b.Has && a.Last == b.Last && a.This == b.This && a.Forced == b.Forced
}

// told tells a store in short, for a test that fails.
func told(s api.Store) string {
	return fmt.Sprintf("final %d, newest %d, %d keys now (%.5x), %d next (%.5x), best (%v: %d, %d, %d, bits %x), last %d, this %d, forced %v",
		s.Final.Beacon.Slot, s.Newest.Beacon.Slot, len(s.Now.Keys), s.Now.Sum, len(s.Next.Keys), s.Next.Sum,
		s.Has, s.Best.Seen.Beacon.Slot, s.Best.Slot, s.Best.Final.Beacon.Slot, s.Best.Bits, s.Last, s.This, s.Forced)
}

// expectCheck sees that Check tells that, and that Apply tells the same, with the store as it was.
func expectCheck(t *testing.T, name string, s api.Store, u api.Update, now uint64, want api.Errno) {
	t.Helper()
	if e := light.Check(s, u, now); e != want {
		t.Errorf("%s: Check answers %d, not %d", name, e, want)
	}
	got, e := light.Apply(s, u, now)
	if e != want || e != api.OK && !sameStore(got, s) {
		t.Errorf("%s: Apply answers %s, and error %d", name, told(got), e)
	}
}

func expectApply(t *testing.T, name string, s api.Store, u api.Update, now uint64, want api.Store) {
	t.Helper()
	if got, e := light.Apply(s, u, now); e != api.OK || !sameStore(got, want) {
		t.Errorf("%s: Apply answers error %d, and\n%s, not\n%s", name, e, told(got), told(want))
	}
}

func expectForce(t *testing.T, name string, s api.Store, now uint64, want api.Store) {
	t.Helper()
	if got, e := light.Force(s, now); e != api.OK || !sameStore(got, want) {
		t.Errorf("%s: Force answers error %d, and\n%s, not\n%s", name, e, told(got), told(want))
	}
}

func expectNoForce(t *testing.T, name string, s api.Store, now uint64) {
	t.Helper()
	if got, e := light.Force(s, now); e != api.ErrForce || !sameStore(got, s) {
		t.Errorf("%s: Force answers error %d, and\n%s, not\n%s", name, e, told(got), told(s))
	}
}

// expectBetter sees that a is better than b, and b not than a.
func expectBetter(t *testing.T, name string, a, b api.Update) {
	t.Helper()
	if mine, other := light.Better(a, b), light.Better(b, a); !mine || other {
		t.Errorf("%s: Better answers %v, and %v the other way round", name, mine, other)
	}
}

func expectAlike(t *testing.T, name string, a, b api.Update) {
	t.Helper()
	if mine, other := light.Better(a, b), light.Better(b, a); mine || other {
		t.Errorf("%s: Better answers %v, and %v the other way round, of two that are alike", name, mine, other)
	}
}
