package head_test

import (
	"fmt"
	"slices"
	"strings"
	"sync"
	"testing"
	"unsafe"

	"pharos/api"
	"pharos/head"
)

// P13.3: unlike Boots have unlike bytes, like ones the same.
func TestBootsOneToOne(t *testing.T) {
	all := boots()
	for i, a := range all {
		for j, b := range all {
			first, e := head.BootBytes(a)
			second, f := head.BootBytes(b)
			if (first == second) != (i == j) || e != api.OK || f != api.OK {
				t.Errorf("the Boots %d and %d have the bytes %s and %s, errors %d and %d", i, j, short(first), short(second), e, f)
			}
		}
	}
}

// P13.3: likewise of updates; none has a Boot's bytes.
func TestUpdatesOneToOne(t *testing.T) {
	all := updates()
	for i, a := range all {
		first, e := head.Bytes(a)
		for j, b := range all {
			second, f := head.Bytes(b)
			if (first == second) != (i == j) || e != api.OK || f != api.OK {
				t.Errorf("the updates %d and %d have the bytes %s and %s, errors %d and %d", i, j, short(first), short(second), e, f)
			}
		}
		for j, b := range boots() {
			if second, _ := head.BootBytes(b); first == second {
				t.Errorf("the update %d and the Boot %d have the bytes %s", i, j, short(first))
			}
		}
	}
}

// P13.3: messages that tell the same texts at other places have unlike bytes.
func TestPlacesOneToOne(t *testing.T) {
	seen := map[string]int{}
	var u api.Update
	for i, at := range updateTexts(&u) {
		*at = "text"
		seen[mustBytes(t, u)] = i
		*at = ""
	}
	if len(seen) != len(updateTexts(&u)) {
		t.Errorf("%d texts have %d bytes", len(updateTexts(&u)), len(seen))
	}
	seen = map[string]int{}
	var b api.Boot
	for i, at := range bootTexts(&b) {
		*at = "text"
		s, _ := head.BootBytes(b)
		seen[s] = i
		*at = ""
	}
	if len(seen) != len(bootTexts(&b)) {
		t.Errorf("%d texts of a Boot have %d bytes", len(bootTexts(&b)), len(seen))
	}
}

func mustBytes(t *testing.T, u api.Update) string {
	t.Helper()
	s, e := head.Bytes(u)
	if e != api.OK {
		t.Fatalf("Bytes: error %d", e)
	}
	return s
}

// P13.3: headers that differ in one field alone have unlike roots; so have all of those together.
func TestHeadersRoots(t *testing.T) {
	roots := map[string]api.Header{}
	note := func(h api.Header) {
		root, e := head.Root(h)
		if other, had := roots[root]; had && other != h || len(root) != 32 || e != api.OK {
			t.Errorf("Root of %v, and of %v, is %x, error %d", h, other, root, e)
		}
		roots[root] = h
	}
	note(madeHeader())
	for bit := range 64 {
		h := madeHeader()
		h.Slot ^= 1 << bit
		note(h)
		h = madeHeader()
		h.Proposer ^= 1 << bit
		note(h)
	}
	for at := range 32 {
		for bit := range 8 {
			var h api.Header
			for _, s := range []*string{&h.Parent, &h.State, &h.Body} {
				h = madeHeader()
				*s = changed(*s, at, 1<<bit)
				note(h)
			}
		}
	}
	h := madeHeader()
	note(api.Header{Slot: h.Proposer, Proposer: h.Slot, Parent: h.Parent, State: h.State, Body: h.Body})
	note(api.Header{Slot: h.Slot, Proposer: h.Proposer, Parent: h.State, State: h.Parent, Body: h.Body})
	note(api.Header{Slot: h.Slot, Proposer: h.Proposer, Parent: h.Parent, State: h.Body, Body: h.State})
	if want := 1 + 2*64 + 3*32*8 + 3; len(roots) != want {
		t.Errorf("%d roots, not %d", len(roots), want)
	}
}

// P13.1: Execs and committees that differ at one place have unlike roots, too.
func TestOtherRoots(t *testing.T) {
	roots := map[string]string{}
	note := func(name string, root string, e api.Errno) {
		if other, had := roots[root]; had || len(root) != 32 || e != api.OK {
			t.Errorf("the root of %s, and of %s, is %x, error %d", name, other, root, e)
		}
		roots[root] = name
	}
	x, c := madeExec(), madeCommittee()
	exec := func(name string, x api.Exec) { root, e := head.ExecRoot(x); note(name, root, e) }
	committee := func(name string, c api.Committee) { root, e := head.CommitteeRoot(c); note(name, root, e) }
	exec("the Exec", x)
	exec("exchanged", api.Exec{Accounts: x.Receipts, Receipts: x.Accounts, Number: x.Number})
	for bit := range 64 {
		exec(fmt.Sprint("the number's bit ", bit), api.Exec{Accounts: x.Accounts, Receipts: x.Receipts, Number: x.Number ^ 1<<bit})
	}
	for at := range 32 {
		exec(fmt.Sprint("Accounts at ", at), api.Exec{Accounts: changed(x.Accounts, at, 1), Receipts: x.Receipts, Number: x.Number})
		exec(fmt.Sprint("Receipts at ", at), api.Exec{Accounts: x.Accounts, Receipts: changed(x.Receipts, at, 1), Number: x.Number})
	}
	committee("the committee", c)
	for at := range 5 {
		committee(fmt.Sprint("the sum at ", at), api.Committee{Keys: c.Keys, Sum: changed(c.Sum, at, 1)})
		for i, key := range c.Keys {
			committee(fmt.Sprint("the key ", i, " at ", at), api.Committee{Keys: with(c.Keys, i, changed(key, at, 1)), Sum: c.Sum})
		}
	}
	for i := range 15 {
		committee(fmt.Sprint("exchanged at ", i), api.Committee{Keys: with(with(c.Keys, i, c.Keys[i+1]), i+1, c.Keys[i]), Sum: c.Sum})
	}
}

// over is a text laid over bytes that may be written into.
func over(b []byte) string { return unsafe.String(unsafe.SliceData(b), len(b)) }

// R3: what is answered is new memory: texts laid over bytes that are written into later stay as they were.
func TestNothingKept(t *testing.T) {
	first := func(s string, e api.Errno) string { return s }
	answers := map[string]func(s string) string{
		"Root":     func(s string) string { return first(head.Root(api.Header{Parent: s, State: s, Body: s})) },
		"ExecRoot": func(s string) string { return first(head.ExecRoot(api.Exec{Accounts: s, Receipts: s})) },
		"CommitteeRoot": func(s string) string {
			return first(head.CommitteeRoot(api.Committee{Keys: slices.Repeat([]string{s[:5]}, 16), Sum: s[5:10]}))
		},
		"Bytes":     func(s string) string { return first(head.Bytes(api.Update{Sig: s, FinalBranch: []string{s, s}})) },
		"BootBytes": func(s string) string { return first(head.BootBytes(api.Boot{Now: api.Committee{Sum: s}})) },
	}
	for name, answer := range answers {
		text := []byte(made(32, 1))
		got := answer(over(text))
		if string(text) != made(32, 1) {
			t.Errorf("%s wrote into what it was handed", name)
		}
		want := answer(made(32, 1))
		clear(text)
		if got != want || got == "" {
			t.Errorf("%s is %s, not %s: it kept what it was handed", name, short(got), short(want))
		}
	}
	for _, u := range updates() {
		text := []byte(updateTree(u).bytes())
		got, _ := head.From(over(text))
		clear(text)
		if !sameUpdate(got, u) {
			t.Errorf("From kept what it was handed: it is now that of %s", short(updateTree(got).bytes()))
		}
	}
	for _, b := range boots() {
		text := []byte(bootTree(b).bytes())
		got, _ := head.BootFrom(over(text))
		clear(text)
		if !sameBoot(got, b) {
			t.Errorf("BootFrom kept what it was handed: it is now that of %s", short(bootTree(got).bytes()))
		}
	}
}

// R3: lists that are handed in are not written into, nor their spare room.
func TestHandedIn(t *testing.T) {
	room := madeTexts(40, 5)
	before := slices.Clone(room)
	keys := room[:16]
	chunks := []string{zeros, zeros, zeros, zeros}
	c := api.Committee{Keys: keys, Sum: "fghij"}
	l := api.Light{Beacon: madeHeader(), Exec: madeExec(), Branch: chunks[:2]}
	u := api.Update{Seen: l, Next: c, NextBranch: room[:3], Final: l, FinalBranch: room[2:4]}
	for range 3 {
		head.CommitteeRoot(c)
		head.Holds(l)
		head.Bytes(u)
		head.BootBytes(api.Boot{Light: l, Now: c, Branch: room[:7]})
	}
	if !slices.Equal(room, before) || !slices.Equal(chunks, slices.Repeat([]string{zeros}, 4)) {
		t.Error("lists were written into")
	}
}

// writeOver writes into all of a list, and into its spare room.
func writeOver(l []string) {
	for i := range l[:cap(l)] {
		l[:cap(l)][i] = "written"
	}
}

// R3: no two lists of an answer share memory, nor do two answers.
func TestListsApart(t *testing.T) {
	u := api.Update{Seen: api.Light{Branch: madeTexts(3, 9)}, Next: api.Committee{Keys: madeTexts(5, 9)}, NextBranch: madeTexts(4, 9), Final: api.Light{Branch: madeTexts(2, 9)}, FinalBranch: madeTexts(3, 9)}
	lists := func(u *api.Update) []*[]string {
		return []*[]string{&u.Seen.Branch, &u.Next.Keys, &u.NextBranch, &u.Final.Branch, &u.FinalBranch}
	}
	s := updateTree(u).bytes()
	other, _ := head.From(s)
	for i := range lists(&u) {
		got, _ := head.From(s)
		writeOver(*lists(&got)[i])
		want := u
		*lists(&want)[i] = slices.Repeat([]string{"written"}, len(*lists(&u)[i]))
		if !sameUpdate(got, want) || !sameUpdate(other, u) {
			t.Errorf("the list %d shares memory", i)
		}
	}
	b := api.Boot{Light: api.Light{Branch: madeTexts(3, 9)}, Now: api.Committee{Keys: madeTexts(5, 9)}, Branch: madeTexts(3, 9)}
	s = bootTree(b).bytes()
	another, _ := head.BootFrom(s)
	got, _ := head.BootFrom(s)
	writeOver(got.Light.Branch)
	writeOver(got.Now.Keys)
	if !slices.Equal(got.Branch, b.Branch) || !sameBoot(another, b) {
		t.Error("a Boot's lists share memory")
	}
}

// R4: what is answered hangs on the arguments alone; calls side by side don't meet.
func TestSideBySide(t *testing.T) {
	all, light := updates(), madeLight()
	var workers sync.WaitGroup
	for shift := range 4 {
		workers.Go(func() {
			for i := range all {
				u := all[(i+shift*7)%len(all)]
				s := updateTree(u).bytes()
				expectBytes(t, u, s)
				expectUpdate(t, s, u)
				expectNoUpdate(t, "with more behind", s+"\x00")
				expectHolds(t, "made", light, true)
				expectRoot(t, "made", light.Beacon, plainHeaderRoot(light.Beacon), api.OK)
			}
		})
	}
	workers.Wait()
}

// P13.1, P13.2: a Light that holds does so when it is read again; what a message tells need not be right.
func TestHoldsAgain(t *testing.T) {
	b := api.Boot{Light: madeLight(), Now: madeCommittee(), Branch: madeTexts(3, 32)}
	s, _ := head.BootBytes(b)
	again, e := head.BootFrom(s)
	expectHolds(t, "read again", again.Light, true)
	expectCommitteeRoot(t, "read again", again.Now, plainCommitteeRoot(b.Now), e)
	u := api.Update{Seen: oddLight(), Final: madeLight(), Sig: strings.Repeat("s", 40)}
	read, e := head.From(mustBytes(t, u))
	expectHolds(t, "an odd one", read.Seen, false)
	expectHolds(t, "read again", read.Final, true)
	expectRoot(t, "an odd one", read.Seen.Beacon, "", api.ErrHead)
	if e != api.OK {
		t.Errorf("From: error %d", e)
	}
}
