package head_test

import (
	"fmt"
	"slices"
	"strings"
	"testing"

	"pharos/api"
	"pharos/head"
)

// root32 is a letter, 32 times: written-out roots are of such texts.
func root32(letter string) string { return strings.Repeat(letter, 32) }

func expectRoot(t *testing.T, name string, h api.Header, want string, wantError api.Errno) {
	t.Helper()
	if got, e := head.Root(h); got != want || e != wantError {
		t.Errorf("%s: Root is %x, error %d, not %x, error %d", name, got, e, want, wantError)
	}
}

func expectExecRoot(t *testing.T, name string, x api.Exec, want string, wantError api.Errno) {
	t.Helper()
	if got, e := head.ExecRoot(x); got != want || e != wantError {
		t.Errorf("%s: ExecRoot is %x, error %d, not %x, error %d", name, got, e, want, wantError)
	}
}

func expectCommitteeRoot(t *testing.T, name string, c api.Committee, want string, wantError api.Errno) {
	t.Helper()
	if got, e := head.CommitteeRoot(c); got != want || e != wantError {
		t.Errorf("%s: CommitteeRoot is %x, error %d, not %x, error %d", name, got, e, want, wantError)
	}
}

// unhex is the text of hexadecimal digits.
func unhex(t *testing.T, digits string) string {
	t.Helper()
	var b []byte
	if _, err := fmt.Sscanf(digits, "%x", &b); err != nil {
		t.Fatal(err)
	}
	return string(b)
}

// P13.1: roots of headers, written out (reckoned outside of the project; that of zeros alone is published).
func TestRootWrittenOut(t *testing.T) {
	p, s, b := root32("p"), root32("s"), root32("b")
	for _, c := range []struct {
		h    api.Header
		want string
	}{
		{api.Header{Parent: zeros, State: zeros, Body: zeros}, "c78009fdf07fc56a11f122370658a353aaa542ed63e44c4bc15ff4cd105ab33c"},
		{api.Header{Slot: 1, Parent: zeros, State: zeros, Body: zeros}, "8bb2f09de48c102635622dc27e6de03ae2b22639df7c33edbc8222b2ec423746"},
		{api.Header{Slot: 258, Proposer: 3, Parent: p, State: s, Body: b}, "601c1ec8f636ba6ee0315b4411853d12e3d555696a6138aea375e9f2d5a0701f"},
		{api.Header{Slot: greatest, Proposer: 1 << 63, Parent: p, State: s, Body: b}, "a752a9f8bb0aca8a799b3124a610b311c258dffdccb1e6c1ad689d77a06ffb5a"},
	} {
		expectRoot(t, "written out", c.h, unhex(t, c.want), api.OK)
	}
}

// P13.1: the chapter's examples.
func TestRootExamples(t *testing.T) {
	h := api.Header{Slot: 1, Parent: zeros, State: zeros, Body: zeros}
	expectRoot(t, "five chunks", h, plainRoot(3, plainNumber(1), zeros, zeros, zeros, zeros), api.OK)
	h.Body = zeros[1:]
	expectRoot(t, "a Body of 31 bytes", h, "", api.ErrHead)
}

// P13.1: numbers at their edges, each with each.
func TestRootNumbers(t *testing.T) {
	for _, slot := range edgeNumbers() {
		for _, proposer := range edgeNumbers() {
			h := madeHeader()
			h.Slot, h.Proposer = slot, proposer
			expectRoot(t, fmt.Sprint(slot, proposer), h, plainHeaderRoot(h), api.OK)
		}
	}
}

// sizes are those of texts that are near to 32 bytes, and far.
func sizes() []int { return []int{32, 0, 1, 31, 33, 64, 100} }

// P13.1: a header is right if each of its three texts has 32 bytes, whatever the others have.
func TestRootRight(t *testing.T) {
	for _, parent := range sizes() {
		for _, state := range sizes() {
			for _, body := range sizes() {
				h := api.Header{Slot: 1, Parent: made(parent, 1), State: made(state, 2), Body: made(body, 3)}
				name := fmt.Sprint("of ", parent, state, body)
				if parent == 32 && state == 32 && body == 32 {
					expectRoot(t, name, h, plainHeaderRoot(h), api.OK)
				} else {
					expectRoot(t, name, h, "", api.ErrHead)
				}
			}
		}
	}
	expectRoot(t, "an empty one", api.Header{}, "", api.ErrHead)
}

// P13.1: roots of Execs, written out (that of zeros alone is published).
func TestExecRootWrittenOut(t *testing.T) {
	x := api.Exec{Accounts: root32("a"), Receipts: root32("r"), Number: 7}
	expectExecRoot(t, "written out", x, unhex(t, "64eee80010386832bf779b7cbe59467e7d2875547a254d7250cc87624d44c510"), api.OK)
	x = api.Exec{Accounts: zeros, Receipts: zeros}
	expectExecRoot(t, "zeros", x, unhex(t, "db56114e00fdd4c1f85c892bf35ac9a89289aaecb1ebd0a96cde606a748b5d71"), api.OK)
}

// P13.1: an Exec's number at its edges.
func TestExecRootNumbers(t *testing.T) {
	for _, n := range edgeNumbers() {
		x := madeExec()
		x.Number = n
		expectExecRoot(t, fmt.Sprint(n), x, plainExecRoot(x), api.OK)
	}
}

// P13.1: an Exec is right if both of its texts have 32 bytes.
func TestExecRootRight(t *testing.T) {
	for _, accounts := range sizes() {
		for _, receipts := range sizes() {
			x := api.Exec{Accounts: made(accounts, 1), Receipts: made(receipts, 2), Number: 5}
			name := fmt.Sprint("of ", accounts, receipts)
			if accounts == 32 && receipts == 32 {
				expectExecRoot(t, name, x, plainExecRoot(x), api.OK)
			} else {
				expectExecRoot(t, name, x, "", api.ErrHead)
			}
		}
	}
	expectExecRoot(t, "an empty one", api.Exec{}, "", api.ErrHead)
}

// P13.1: roots of committees, written out.
func TestCommitteeRootWrittenOut(t *testing.T) {
	c := api.Committee{Sum: "sum-s"}
	for letter := range 16 {
		c.Keys = append(c.Keys, "key-"+string(rune('a'+letter)))
	}
	expectCommitteeRoot(t, "written out", c, unhex(t, "89f987e924f7a647771deecf45767b258cb3874fc507b0c0011b169366b2ab5a"), api.OK)
	c = api.Committee{Keys: slices.Repeat([]string{zeros[:5]}, 16), Sum: zeros[:5]}
	expectCommitteeRoot(t, "zeros, which are Inf", c, unhex(t, "792930bbd5baac43bcc798ee49aa8185ef76bb3b44ba62b91d86ae569e4bb535"), api.OK)
}

// P13.1: whether keys and their sum are points is not asked.
func TestCommitteeRootAnyBytes(t *testing.T) {
	for _, s := range []string{"\xff\xff\xff\xff\xff", "abcde", "\x02\x00\x00\x00\x00", "\x00\x00\x00\x00\x01"} {
		c := api.Committee{Keys: slices.Repeat([]string{s}, 16), Sum: s}
		expectCommitteeRoot(t, short(s), c, plainCommitteeRoot(c), api.OK)
	}
}

// P13.1: a committee is right if it has 16 keys.
func TestCommitteeRootCounts(t *testing.T) {
	for count := range 40 {
		c := api.Committee{Keys: madeTexts(count, 5), Sum: "fghij"}
		if count == 16 {
			expectCommitteeRoot(t, "16 keys", c, plainCommitteeRoot(c), api.OK)
		} else {
			expectCommitteeRoot(t, fmt.Sprint(count, " keys"), c, "", api.ErrHead)
		}
	}
	expectCommitteeRoot(t, "very many", api.Committee{Keys: slices.Repeat([]string{"abcde"}, 1<<20), Sum: "fghij"}, "", api.ErrHead)
	expectCommitteeRoot(t, "none", api.Committee{Keys: []string{}}, "", api.ErrHead)
}

// P13.1: a committee is right if each key, and the sum, has 5 bytes.
func TestCommitteeRootSizes(t *testing.T) {
	right := madeCommittee()
	for _, size := range []int{0, 1, 4, 6, 10, 32, 33, 64} {
		for at := range right.Keys {
			c := api.Committee{Keys: with(right.Keys, at, made(size, at)), Sum: right.Sum}
			expectCommitteeRoot(t, fmt.Sprint("the key ", at, " of ", size), c, "", api.ErrHead)
		}
		c := api.Committee{Keys: right.Keys, Sum: made(size, 99)}
		expectCommitteeRoot(t, fmt.Sprint("a sum of ", size), c, "", api.ErrHead)
	}
	// All in all as many bytes as there should be.
	c := api.Committee{Keys: with(with(right.Keys, 3, "abcd"), 4, "efghij"), Sum: right.Sum}
	expectCommitteeRoot(t, "keys of 4 and 6", c, "", api.ErrHead)
}

// P13.1: of all committees, each key and the sum counts, at its place.
func TestCommitteeRootPlaces(t *testing.T) {
	right := madeCommittee()
	expectCommitteeRoot(t, "right", right, plainCommitteeRoot(right), api.OK)
	for at := range right.Keys {
		for i := range 5 {
			c := api.Committee{Keys: with(right.Keys, at, changed(right.Keys[at], i, 1)), Sum: right.Sum}
			expectCommitteeRoot(t, "a key changed", c, plainCommitteeRoot(c), api.OK)
		}
		c := api.Committee{Keys: with(right.Keys, at, right.Sum), Sum: right.Keys[at]}
		expectCommitteeRoot(t, "a key for the sum", c, plainCommitteeRoot(c), api.OK)
	}
	c := api.Committee{Keys: slices.Clone(right.Keys), Sum: right.Sum}
	slices.Reverse(c.Keys)
	expectCommitteeRoot(t, "the other way round", c, plainCommitteeRoot(c), api.OK)
}
