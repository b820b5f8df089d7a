package mint_test

import (
	"crypto/sha256"
	"encoding/binary"
	"fmt"
	"slices"
	"strings"
	"testing"

	"pharos/api"
	"pharos/mint"
	"pharos/sign"
)

// The tests reckon messages of their own: roots and branches by the library's SHA-256, the sum of keys and of signatures by the sum of their secrets.

const (
	greatest = uint64(1<<64 - 1)
	order    = uint64(api.Order)
	everyone = uint64(65535) // bits of all members
)

// zeros are 32 bytes 0.
var zeros = strings.Repeat("\x00", 32)

// noSecrets are numbers that are none.
var noSecrets = []uint64{0, order, order + 1, 2*order + 5, api.Prime, 1<<32 + 1, 1<<63 + 1, greatest}

// slots are some, the edges of periods and forks among them.
var slots = []uint64{0, 1, 2, 3, 15, 16, 17, 31, 63, 64, 127, 128, 129, 256, 257, 1 << 32, 1<<63 - 1, 1 << 63, greatest - 1, greatest}

// made is a text of so many bytes, none of them 0; of another seed it is another one.
func made(size, seed int) string {
	b := make([]byte, size)
	for i := range b {
		b[i] = byte(1 + (i*7+seed*29)%255)
	}
	return string(b)
}

// accounts and receipts are roots.
var accounts, receipts = made(32, 1), made(32, 2)

// secrets are 16, one behind the other.
func secrets(from uint64) []uint64 {
	var l []uint64
	for n := range uint64(16) {
		l = append(l, from+n)
	}
	return l
}

// with is l with another one at a place.
func with[T any](l []T, at int, x T) []T {
	other := slices.Clone(l)
	other[at] = x
	return other
}

func plainSum(first, second string) string {
	sum := sha256.Sum256([]byte(first + second))
	return string(sum[:])
}

// plainTree are the rows of a tree, from the leaves on; what stands behind these are zeros.
func plainTree(depth int, leaves ...string) [][]string {
	row := append(slices.Clone(leaves), slices.Repeat([]string{zeros}, 1<<depth-len(leaves))...)
	rows := [][]string{row}
	for len(row) > 1 {
		var above []string
		for pair := range slices.Chunk(row, 2) {
			above = append(above, plainSum(pair[0], pair[1]))
		}
		row = above
		rows = append(rows, row)
	}
	return rows
}

func plainRoot(depth int, leaves ...string) string { return plainTree(depth, leaves...)[depth][0] }

func plainBranch(depth, leaf int, leaves ...string) []string {
	var branch []string
	for height, row := range plainTree(depth, leaves...)[:depth] {
		branch = append(branch, row[leaf>>height^1])
	}
	return branch
}

// plainNumber is a number's chunk.
func plainNumber(n uint64) string {
	return string(binary.LittleEndian.AppendUint64(nil, n)) + zeros[8:]
}

func plainHeaderRoot(h api.Header) string {
	return plainRoot(3, plainNumber(h.Slot), plainNumber(h.Proposer), h.Parent, h.State, h.Body)
}

func plainExecRoot(x api.Exec) string {
	return plainRoot(2, x.Accounts, x.Receipts, plainNumber(x.Number))
}

func plainCommitteeRoot(c api.Committee) string {
	var leaves []string
	for _, key := range c.Keys {
		leaves = append(leaves, key+zeros[5:])
	}
	return plainSum(plainRoot(4, leaves...), c.Sum+zeros[5:])
}

// total is the sum of the secrets whose bits are set, modulo the group's order.
func total(secrets []uint64, bits uint64) uint64 {
	sum := uint64(0)
	for i, secret := range secrets {
		if bits&(1<<i) != 0 {
			sum += secret
		}
	}
	return sum % order
}

// plainKey is the key of a secret, or the bytes of Inf of 0, which is none.
func plainKey(secret uint64) string {
	if secret == 0 {
		return zeros[:5]
	}
	key, _ := sign.Key(secret)
	return key
}

// plainSig is the signature of a text by those of the secrets whose bits are set.
func plainSig(secrets []uint64, bits uint64, text string) string {
	sum := total(secrets, bits)
	if sum == 0 {
		return zeros[:5]
	}
	sig, _ := sign.Sign(sum, text)
	return sig
}

func plainCommittee(secrets []uint64) api.Committee {
	c := api.Committee{Sum: plainKey(total(secrets, everyone))}
	for _, secret := range secrets {
		c.Keys = append(c.Keys, plainKey(secret))
	}
	return c
}

func plainLight(slot uint64, accounts, receipts, state string) api.Light {
	x := api.Exec{Accounts: accounts, Receipts: receipts, Number: slot}
	leaves := []string{plainNumber(slot), zeros, plainExecRoot(x)}
	h := api.Header{Slot: slot, Proposer: slot & 15, Parent: plainNumber(slot), State: state, Body: plainRoot(2, leaves...)}
	return api.Light{Beacon: h, Exec: x, Branch: plainBranch(2, 2, leaves...)}
}

func plainBoot(slot uint64, secrets []uint64, accounts, receipts string) (string, api.Boot) {
	now := plainCommittee(secrets)
	leaves := []string{zeros, zeros, zeros, zeros, plainCommitteeRoot(now)}
	l := plainLight(slot, accounts, receipts, plainRoot(3, leaves...))
	return plainHeaderRoot(l.Beacon), api.Boot{Light: l, Now: now, Branch: plainBranch(3, 4, leaves...)}
}

// plainFork is the number in the text that is signed in a slot: one more behind 128 slots, and behind as many again; no more behind these.
func plainFork(slot uint64) uint64 {
	switch {
	case slot <= 128:
		return 7
	case slot <= 256:
		return 8
	}
	return 9
}

func plainUpdate(p api.Plan) api.Update {
	u := api.Update{Bits: p.Bits, Slot: p.Slot}
	leaves := []string{zeros, zeros, zeros, zeros, plainCommitteeRoot(plainCommittee(p.Now)), zeros}
	if p.Final != 0 {
		u.Final = plainLight(p.Final, p.Accounts, p.Receipts, zeros)
		leaves[3] = plainHeaderRoot(u.Final.Beacon)
	}
	if len(p.Next) != 0 {
		u.Next = plainCommittee(p.Next)
		leaves[5] = plainCommitteeRoot(u.Next)
	}
	if p.Final != 0 {
		u.FinalBranch = plainBranch(3, 3, leaves...)
	}
	if len(p.Next) != 0 {
		u.NextBranch = plainBranch(3, 5, leaves...)
	}
	u.Seen = plainLight(p.Seen, p.Accounts, p.Receipts, plainRoot(3, leaves...))
	u.Sig = plainSig(p.Now, p.Bits, plainText(u.Seen.Beacon, p.Slot))
	return u
}

// plainText is what is signed of a header in a slot.
func plainText(h api.Header, slot uint64) string {
	return plainSum(plainHeaderRoot(h), plainNumber(plainFork(slot)))
}

// plan is one whose update is final, and has a next committee; all sign.
func plan() api.Plan {
	return api.Plan{Seen: 9, Slot: 10, Final: 7, Now: secrets(1), Next: secrets(21), Bits: everyone, Accounts: accounts, Receipts: receipts}
}

// told tells an answer. Lists of none are told as one, nil or not.
func told(x any) string { return fmt.Sprintf("%x", x) }

func expectCommittee(t *testing.T, name string, secrets []uint64) {
	t.Helper()
	c, e := mint.Committee(secrets)
	if want := plainCommittee(secrets); e != api.OK || told(c) != told(want) {
		t.Errorf("%s: Committee answers error %d, and\n%x, not\n%x", name, e, c, want)
	}
}

func expectNoCommittee(t *testing.T, name string, secrets []uint64) {
	t.Helper()
	if c, e := mint.Committee(secrets); e != api.ErrArg || c.Keys != nil || c.Sum != "" {
		t.Errorf("%s: Committee answers error %d, and %x", name, e, c)
	}
}

func expectLight(t *testing.T, name string, slot uint64, accounts, receipts, state string) {
	t.Helper()
	l, e := mint.Light(slot, accounts, receipts, state)
	if want := plainLight(slot, accounts, receipts, state); e != api.OK || told(l) != told(want) {
		t.Errorf("%s: Light answers error %d, and\n%x, not\n%x", name, e, l, want)
	}
}

func expectNoLight(t *testing.T, name string, slot uint64, accounts, receipts, state string) {
	t.Helper()
	if l, e := mint.Light(slot, accounts, receipts, state); e != api.ErrArg || told(l) != told(api.Light{}) {
		t.Errorf("%s: Light answers error %d, and %x", name, e, l)
	}
}

func expectBoot(t *testing.T, name string, slot uint64, secrets []uint64, accounts, receipts string) {
	t.Helper()
	root, b, e := mint.Boot(slot, secrets, accounts, receipts)
	if own, want := plainBoot(slot, secrets, accounts, receipts); e != api.OK || root != own || told(b) != told(want) {
		t.Errorf("%s: Boot answers error %d, %x, and\n%x, not %x, and\n%x", name, e, root, b, own, want)
	}
}

func expectNoBoot(t *testing.T, name string, slot uint64, secrets []uint64, accounts, receipts string) {
	t.Helper()
	if root, b, e := mint.Boot(slot, secrets, accounts, receipts); e != api.ErrArg || root != "" || told(b) != told(api.Boot{}) {
		t.Errorf("%s: Boot answers error %d, %x, and %x", name, e, root, b)
	}
}

func expectUpdate(t *testing.T, name string, p api.Plan) {
	t.Helper()
	u, e := mint.Update(p)
	if want := plainUpdate(p); e != api.OK || told(u) != told(want) {
		t.Errorf("%s: Update answers error %d, and\n%x, not\n%x", name, e, u, want)
	}
}

func expectNoUpdate(t *testing.T, name string, p api.Plan) {
	t.Helper()
	if u, e := mint.Update(p); e != api.ErrArg || told(u) != told(api.Update{}) {
		t.Errorf("%s: Update answers error %d, and %x", name, e, u)
	}
}
