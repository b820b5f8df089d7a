package head_test

import (
	"fmt"
	"slices"
	"testing"

	"pharos/api"
	"pharos/head"
)

// P13.2: bytes of Boots, written out (reckoned outside of the project).
func TestBootBytesWrittenOut(t *testing.T) {
	for _, c := range []struct {
		b      api.Boot
		digits string
	}{
		{api.Boot{}, "d0cbc58080808080c3808080c0c2c080c0"},
		{api.Boot{
			Light: api.Light{
				Beacon: api.Header{Slot: 1, Proposer: 128, Parent: "P", State: "st", Body: "\x80"},
				Exec:   api.Exec{Accounts: "acc", Number: 256},
				Branch: []string{"b1", ""},
			},
			Now:    api.Committee{Keys: []string{"k1", "k"}, Sum: "sum"},
			Branch: []string{"x", "yz"},
		}, "e8d8c9018180508273748180c88361636380820100c482623180c9c4826b316b8373756dc47882797a"},
	} {
		s := unhex(t, c.digits)
		expectBootBytes(t, c.b, s)
		expectBoot(t, s, c.b)
	}
}

// P13.2: bytes of updates, written out.
func TestBytesWrittenOut(t *testing.T) {
	for _, c := range []struct {
		u      api.Update
		digits string
	}{
		{api.Update{}, "e0cbc58080808080c3808080c0c2c080c0cbc58080808080c3808080c0c0808080"},
		{api.Update{
			Seen: api.Light{
				Beacon: api.Header{Slot: 1, Proposer: 128, Parent: "P", State: "st", Body: "\x80"},
				Exec:   api.Exec{Accounts: "acc", Number: 256},
				Branch: []string{"b1", ""},
			},
			Next:       api.Committee{Keys: []string{"k1", "k"}, Sum: "sum"},
			NextBranch: []string{"x"},
			Final: api.Light{
				Beacon: api.Header{Slot: 127, Proposer: 255, Body: "body"},
				Exec:   api.Exec{Accounts: "\x00", Receipts: "\x7f", Number: 1 << 63},
				Branch: []string{""},
			},
			FinalBranch: []string{"", "y"},
			Bits:        0xfffe,
			Sig:         "sig",
			Slot:        greatest,
		}, "f852d8c9018180508273748180c88361636380820100c482623180c9c4826b316b8373756dc178d9ca7f81ff808084626f6479cb007f888000000000000000c180c2807982fffe8373696788ffffffffffffffff"},
	} {
		s := unhex(t, c.digits)
		expectBytes(t, c.u, s)
		expectUpdate(t, s, c.u)
	}
}

// P13.2: messages of all kinds are written as their items, and read from these.
func TestMessages(t *testing.T) {
	for _, b := range boots() {
		s := bootTree(b).bytes()
		expectBootBytes(t, b, s)
		expectBoot(t, s, b)
	}
	for _, u := range updates() {
		s := updateTree(u).bytes()
		expectBytes(t, u, s)
		expectUpdate(t, s, u)
	}
}

// P13.2: lists of none are the same, nil or not.
func TestEmptyLists(t *testing.T) {
	none := []string{}
	light := api.Light{Branch: none}
	expectBootBytes(t, api.Boot{Light: light, Now: api.Committee{Keys: none}, Branch: none}, bootTree(api.Boot{}).bytes())
	u := api.Update{Seen: light, Next: api.Committee{Keys: none}, NextBranch: none, Final: light, FinalBranch: none}
	expectBytes(t, u, updateTree(api.Update{}).bytes())
	expectUpdate(t, updateTree(u).bytes(), u)
}

// P13.2: each number of a message is written and read at its edges, each one at its own place.
func TestMessageNumbers(t *testing.T) {
	for _, n := range edgeNumbers() {
		var b api.Boot
		for _, at := range []*uint64{&b.Light.Beacon.Slot, &b.Light.Beacon.Proposer, &b.Light.Exec.Number} {
			b = api.Boot{Now: madeCommittee()}
			*at = n
			expectBootBytes(t, b, bootTree(b).bytes())
			expectBoot(t, bootTree(b).bytes(), b)
		}
		var u api.Update
		for _, at := range []*uint64{
			&u.Seen.Beacon.Slot, &u.Seen.Beacon.Proposer, &u.Seen.Exec.Number,
			&u.Final.Beacon.Slot, &u.Final.Beacon.Proposer, &u.Final.Exec.Number, &u.Bits, &u.Slot,
		} {
			u = api.Update{Sig: "sig"}
			*at = n
			expectBytes(t, u, updateTree(u).bytes())
			expectUpdate(t, updateTree(u).bytes(), u)
		}
	}
}

// bootTexts are the places of a Boot's texts, a chunk of each list too.
func bootTexts(b *api.Boot) []*string {
	b.Light.Branch, b.Now.Keys, b.Branch = make([]string, 2), make([]string, 3), make([]string, 1)
	return []*string{
		&b.Light.Beacon.Parent, &b.Light.Beacon.State, &b.Light.Beacon.Body,
		&b.Light.Exec.Accounts, &b.Light.Exec.Receipts,
		&b.Light.Branch[0], &b.Light.Branch[1], &b.Now.Keys[0], &b.Now.Keys[2], &b.Now.Sum, &b.Branch[0],
	}
}

// updateTexts are the places of an update's texts, a chunk of each list too.
func updateTexts(u *api.Update) []*string {
	u.Seen.Branch, u.Final.Branch, u.Next.Keys = make([]string, 2), make([]string, 1), make([]string, 3)
	u.NextBranch, u.FinalBranch = make([]string, 2), make([]string, 3)
	return []*string{
		&u.Seen.Beacon.Parent, &u.Seen.Beacon.State, &u.Seen.Beacon.Body, &u.Seen.Exec.Accounts, &u.Seen.Exec.Receipts,
		&u.Final.Beacon.Parent, &u.Final.Beacon.State, &u.Final.Beacon.Body, &u.Final.Exec.Accounts, &u.Final.Exec.Receipts,
		&u.Seen.Branch[1], &u.Final.Branch[0], &u.Next.Keys[1], &u.Next.Sum, &u.NextBranch[1], &u.FinalBranch[2], &u.Sig,
	}
}

// textSizes are those at which a text's head changes.
func textSizes() []int { return []int{0, 1, 2, 5, 31, 32, 33, 55, 56, 57, 255, 256, 257, 4000} }

// P13.2: each text of a message is written and read at its own place, whatever its size.
func TestMessageTexts(t *testing.T) {
	for _, size := range textSizes() {
		var b api.Boot
		for _, at := range bootTexts(&b) {
			*at = made(size, 1)
			expectBootBytes(t, b, bootTree(b).bytes())
			expectBoot(t, bootTree(b).bytes(), b)
			*at = ""
		}
		var u api.Update
		for _, at := range updateTexts(&u) {
			*at = made(size, 1)
			expectBytes(t, u, updateTree(u).bytes())
			expectUpdate(t, updateTree(u).bytes(), u)
			*at = ""
		}
	}
}

// fillUp makes a text just so long that there are as many bytes as wanted.
func fillUp(t *testing.T, at *string, wanted int, count func() int) {
	t.Helper()
	size := wanted
	for range 10 {
		*at = made(size, 1)
		over := count() - wanted
		if over == 0 {
			return
		}
		size -= over
	}
	t.Fatalf("no text fills up to %d bytes", wanted)
}

// P13.2: bytes are at most 65536, whichever text is long.
func TestLongTexts(t *testing.T) {
	for _, total := range []int{65534, 65535, 65536, 65537, 65538} {
		var b api.Boot
		for _, at := range bootTexts(&b) {
			fillUp(t, at, total, func() int { return len(bootTree(b).bytes()) })
			tellsLong(t, total, bootTree(b), bootCalls(b))
			*at = ""
		}
		var u api.Update
		for _, at := range updateTexts(&u) {
			fillUp(t, at, total, func() int { return len(updateTree(u).bytes()) })
			tellsLong(t, total, updateTree(u), updateCalls(u))
			*at = ""
		}
	}
}

// calls are those of a message: its bytes, and what is read from bytes, as a tree.
type calls struct {
	bytes func() (string, api.Errno)
	from  func(s string) (tree, api.Errno)
}

func bootCalls(b api.Boot) calls {
	return calls{
		func() (string, api.Errno) { return head.BootBytes(b) },
		func(s string) (tree, api.Errno) { b, e := head.BootFrom(s); return bootTree(b), e },
	}
}

func updateCalls(u api.Update) calls {
	return calls{
		func() (string, api.Errno) { return head.Bytes(u) },
		func(s string) (tree, api.Errno) { u, e := head.From(s); return updateTree(u), e },
	}
}

// tellsLong sees that a message of so many bytes is written and read, or neither.
func tellsLong(t *testing.T, total int, x tree, c calls) {
	t.Helper()
	want := x.bytes()
	if len(want) != total {
		t.Fatalf("%d bytes, not %d", len(want), total)
	}
	s, e := c.bytes()
	read, f := c.from(want)
	if total <= 65536 {
		if s != want || e != api.OK || read.bytes() != want || f != api.OK {
			t.Errorf("of %d bytes: %s, error %d; read: error %d", total, short(s), e, f)
		}
		return
	}
	if s != "" || e != api.ErrLong || f != api.ErrHead {
		t.Errorf("of %d bytes: %s, error %d; read: error %d", total, short(s), e, f)
	}
}

// P13.2: bytes are at most 65536, however many texts there are.
func TestLongLists(t *testing.T) {
	for _, text := range []string{"", "a", "ab", zeros} {
		for _, total := range []int{65536, 65537} {
			u := api.Update{}
			for _, l := range []*[]string{&u.NextBranch, &u.FinalBranch, &u.Next.Keys, &u.Seen.Branch, &u.Final.Branch} {
				*l = slices.Repeat([]string{text}, 65400/len(textTree(text).bytes()))
				fillUp(t, &u.Sig, total, func() int { return len(updateTree(u).bytes()) })
				tellsLong(t, total, updateTree(u), updateCalls(u))
				*l = nil
			}
			b := api.Boot{}
			for _, l := range []*[]string{&b.Branch, &b.Now.Keys, &b.Light.Branch} {
				*l = slices.Repeat([]string{text}, 65400/len(textTree(text).bytes()))
				fillUp(t, &b.Now.Sum, total, func() int { return len(bootTree(b).bytes()) })
				tellsLong(t, total, bootTree(b), bootCalls(b))
				*l = nil
			}
		}
	}
}

// P13.2, R5: far too many bytes are told, too.
func TestFarTooLong(t *testing.T) {
	many, great := make([]string, 1<<20), made(1<<24, 1)
	for i, u := range []api.Update{
		{NextBranch: many}, {FinalBranch: many}, {Next: api.Committee{Keys: many}}, {Seen: api.Light{Branch: many}},
		{Sig: great}, {Final: api.Light{Beacon: api.Header{Body: great}}}, {FinalBranch: []string{"a", great}},
	} {
		if s, e := head.Bytes(u); s != "" || e != api.ErrLong {
			t.Errorf("%d: Bytes is %s, error %d", i, short(s), e)
		}
	}
	for i, b := range []api.Boot{{Branch: many}, {Now: api.Committee{Keys: many}}, {Now: api.Committee{Sum: great}}} {
		if s, e := head.BootBytes(b); s != "" || e != api.ErrLong {
			t.Errorf("%d: BootBytes is %s, error %d", i, short(s), e)
		}
	}
	for _, s := range []string{great, bootTree(api.Boot{Branch: many}).bytes(), updateTree(api.Update{Sig: great}).bytes()} {
		expectNoBoot(t, fmt.Sprint("of ", len(s)), s)
		expectNoUpdate(t, fmt.Sprint("of ", len(s)), s)
	}
}
