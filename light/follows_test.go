package light_test

import (
	"fmt"
	"slices"
	"strings"
	"sync"
	"testing"
	"unsafe"

	"pharos/api"
	"pharos/light"
)

// lightTexts are the places of a Light's texts.
func lightTexts(l *api.Light) []*string {
	h, x := &l.Beacon, &l.Exec
	return append(places(l.Branch), &h.Parent, &h.State, &h.Body, &x.Accounts, &x.Receipts)
}

func places(l []string) []*string {
	var all []*string
	for i := range l {
		all = append(all, &l[i])
	}
	return all
}

func updateTexts(u *api.Update) []*string {
	return slices.Concat(lightTexts(&u.Seen), places(u.Next.Keys), []*string{&u.Next.Sum}, places(u.NextBranch),
		lightTexts(&u.Final), places(u.FinalBranch), []*string{&u.Sig})
}

func storeTexts(s *api.Store) []*string {
	return slices.Concat(lightTexts(&s.Final), lightTexts(&s.Newest), places(s.Now.Keys), []*string{&s.Now.Sum},
		places(s.Next.Keys), []*string{&s.Next.Sum}, updateTexts(&s.Best))
}

func bootTexts(b *api.Boot) []*string {
	return slices.Concat(lightTexts(&b.Light), places(b.Now.Keys), []*string{&b.Now.Sum}, places(b.Branch))
}

// laid lays texts over bytes of their own; what is answered clears these.
func laid(texts []*string) (wipe func()) {
	var all [][]byte
	for _, at := range texts {
		b := []byte(*at)
		all = append(all, b)
		*at = unsafe.String(unsafe.SliceData(b), len(b))
	}
	return func() {
		for _, b := range all {
			clear(b)
		}
	}
}

// full is a store with all that one may have.
func full() api.Store {
	s := storeOf(5, 1, 2)
	s.Newest = lightOf(8, made(32, 60))
	s.Best, s.Has, s.Last, s.This = stays(10).update(), true, 12, 13
	return s
}

// steps are calls that go on with a full store; each answers one that is made anew.
func steps() map[string]func(s api.Store, u api.Update) (api.Store, api.Errno) {
	return map[string]func(s api.Store, u api.Update) (api.Store, api.Errno){
		"refused":      func(s api.Store, u api.Update) (api.Store, api.Errno) { return light.Apply(s, u, 3) },
		"taken over":   func(s api.Store, u api.Update) (api.Store, api.Errno) { return light.Apply(s, u, 10) },
		"not forced":   func(s api.Store, u api.Update) (api.Store, api.Errno) { return light.Force(s, 69) },
		"forced":       func(s api.Store, u api.Update) (api.Store, api.Errno) { return light.Force(s, 70) },
		"the best one": func(s api.Store, u api.Update) (api.Store, api.Errno) { return light.Apply(s, stays(10).update(), 10) },
		"made best": func(s api.Store, u api.Update) (api.Store, api.Errno) {
			s.Has = false
			u.Bits = bitsOf(10)
			u.Sig = good().sign(u)
			return light.Apply(s, u, 10)
		},
		"Next taken over": func(s api.Store, u api.Update) (api.Store, api.Errno) {
			s.Next = api.Committee{}
			return light.Apply(s, u, 10)
		},
		"forced over": func(s api.Store, u api.Update) (api.Store, api.Errno) {
			s.Best = u
			return light.Force(s, 70)
		},
		"forced over to Seen": func(s api.Store, u api.Update) (api.Store, api.Errno) {
			s.Best, s.Newest = u, s.Final
			s.Best.Final = u.Seen
			s.Best.Final.Beacon.Slot = 0
			return light.Force(s, 70)
		},
	}
}

// R3: what is answered is new memory: texts laid over bytes that are written into later stay as they were.
func TestNothingKept(t *testing.T) {
	for name, step := range steps() {
		want, e := step(full(), good().update())
		s, u := full(), good().update()
		wipe := laid(append(storeTexts(&s), updateTexts(&u)...))
		got, f := step(s, u)
		if !sameStore(s, full()) || !sameUpdate(u, good().update()) {
			t.Errorf("%s: what was handed in was written into", name)
		}
		wipe()
		if e != f || !sameStore(got, want) {
			t.Errorf("%s: what was handed in was kept:\n%s, not\n%s", name, told(got), told(want))
		}
	}
	b := bootOf(5, 1)
	root := ownRoot(b)
	want, _ := light.Begin(root, b)
	wipe := laid(append(bootTexts(&b), &root))
	got, e := light.Begin(root, b)
	wipe()
	if e != api.OK || !sameStore(got, want) {
		t.Errorf("Begin kept what it was handed: error %d, %s", e, told(got))
	}
}

// storeLists are the places of a store's lists.
func storeLists(s *api.Store) []*[]string {
	return append(updateLists(&s.Best), &s.Final.Branch, &s.Newest.Branch, &s.Now.Keys, &s.Next.Keys)
}

func updateLists(u *api.Update) []*[]string {
	return []*[]string{&u.Seen.Branch, &u.Next.Keys, &u.NextBranch, &u.Final.Branch, &u.FinalBranch}
}

// writeOver writes into all of a list, and into its spare room.
func writeOver(l []string) {
	for i := range l[:cap(l)] {
		l[:cap(l)][i] = "written"
	}
}

// expectApart sees that no two lists of a store share memory, and calls what was handed in at the end to see whether this stayed.
func expectApart(t *testing.T, name string, answer func() api.Store) {
	t.Helper()
	whole := answer()
	for i := range storeLists(&whole) {
		got, want := answer(), answer()
		writeOver(*storeLists(&got)[i])
		list := storeLists(&want)[i]
		*list = slices.Repeat([]string{"written"}, len(*list))
		if !sameStore(got, want) {
			t.Errorf("%s: the list %d shares memory with another one", name, i)
		}
	}
}

// R3: no two lists of an answer share memory, nor with what was handed in.
func TestListsApart(t *testing.T) {
	for name, step := range steps() {
		s, u := full(), good().update()
		expectApart(t, name, func() api.Store {
			got, _ := step(s, u)
			return got
		})
		if !sameStore(s, full()) || !sameUpdate(u, good().update()) {
			t.Errorf("%s: what was answered shares memory with what was handed in", name)
		}
	}
	b := bootOf(5, 1)
	expectApart(t, "Begin", func() api.Store {
		s, _ := light.Begin(ownRoot(b), b)
		return s
	})
	if again := bootOf(5, 1); !slices.Equal(b.Branch, again.Branch) || !sameLight(b.Light, again.Light) || !sameCommittee(b.Now, again.Now) {
		t.Error("Begin: the store shares memory with the Boot")
	}
	// A store whose lists are one list.
	s := full()
	for _, l := range storeLists(&s) {
		*l = s.Now.Keys
	}
	expectApart(t, "one list", func() api.Store {
		got, _ := light.Apply(s, api.Update{}, 0)
		return got
	})
}

// R3: the spare room of what is handed in is not written into.
func TestSpareRoom(t *testing.T) {
	roomy := func(lists []*[]string) {
		for _, l := range lists {
			*l = append(make([]string, 0, len(*l)+9), *l...)
		}
	}
	used := func(lists []*[]string) bool {
		return slices.ContainsFunc(lists, func(l *[]string) bool {
			return slices.ContainsFunc((*l)[len(*l):cap(*l)], func(s string) bool { return s != "" })
		})
	}
	for name, step := range steps() {
		s, u := full(), good().update()
		roomy(storeLists(&s))
		roomy(updateLists(&u))
		step(s, u)
		light.Better(u, s.Best)
		if used(storeLists(&s)) || used(updateLists(&u)) {
			t.Errorf("%s: spare room was written into", name)
		}
	}
}

// R3: lists of none are nil or not, handed in.
func TestEmptyLists(t *testing.T) {
	for name, step := range steps() {
		want, e := step(full(), good().update())
		s, u := full(), good().update()
		for _, l := range append(storeLists(&s), updateLists(&u)...) {
			if len(*l) == 0 {
				*l = []string{}
			}
		}
		if got, f := step(s, u); e != f || !sameStore(got, want) {
			t.Errorf("%s: error %d, not %d, and\n%s, not\n%s", name, f, e, told(got), told(want))
		}
	}
}

// R4: what is answered hangs on the arguments alone; calls side by side don't meet.
func TestSideBySide(t *testing.T) {
	s, u := full(), good().update()
	var workers sync.WaitGroup
	for range 4 {
		workers.Go(func() {
			for name, step := range steps() {
				want, e := step(full(), good().update())
				if got, f := step(s, u); e != f || !sameStore(got, want) {
					t.Errorf("%s: error %d, not %d, and\n%s, not\n%s", name, f, e, told(got), told(want))
				}
			}
			expectAlike(t, "the same", u, u)
		})
	}
	workers.Wait()
}

// oddText is any text.
func oddText(m *mixer) string {
	return oneOf(m, "", "x", zeros, made(31, 1), made(33, 1), made(32, 2), made(5, 3), "\x00\x00\x00\x00\x00", made(4000, 1))
}

func oddTexts(m *mixer) []string {
	l := make([]string, oneOf(m, 0, 1, 2, 3, 4, 16, 17, 70))
	for i := range l {
		l[i] = oddText(m)
	}
	return l
}

func oddNumber(m *mixer) uint64 {
	return oneOf(m, 0, 1, 5, 63, 64, 65, 128, 1<<63-1, 1<<63, greatest-64, greatest-1, greatest)
}

// odd makes all of an update anything, or leaves some of it.
func oddUpdate(m *mixer, u *api.Update) {
	for _, l := range updateLists(u) {
		if m.below(2) == 0 {
			*l = oddTexts(m)
		}
	}
	for _, at := range updateTexts(u) {
		if m.below(4) == 0 {
			*at = oddText(m)
		}
	}
	for _, at := range []*uint64{&u.Seen.Beacon.Slot, &u.Final.Beacon.Slot, &u.Bits, &u.Slot, &u.Seen.Exec.Number} {
		if m.below(2) == 0 {
			*at = oddNumber(m)
		}
	}
}

// R1: at all stores, updates and slots calls end, and none panics; what is refused changes nothing, slots never go back.
func TestOdd(t *testing.T) {
	m := mixer(3)
	for n := range 800 {
		s, u := full(), good().update()
		oddUpdate(&m, &u)
		oddUpdate(&m, &s.Best)
		for _, l := range storeLists(&s) {
			if m.below(3) == 0 {
				*l = oddTexts(&m)
			}
		}
		s.Final.Beacon.Slot, s.Newest.Beacon.Slot = oddNumber(&m), oddNumber(&m)
		s.Last, s.This = oneOf(&m, 0, -1, -1<<63, 1<<63-1), oneOf(&m, 0, -1, -1<<63, 1<<63-1)
		name := fmt.Sprint("odd ", n)
		got, e := light.Apply(s, u, oddNumber(&m))
		expectOnward(t, name, s, got, e)
		got, e = light.Force(s, oddNumber(&m))
		expectOnward(t, name, s, got, e)
		if light.Better(u, s.Best) && light.Better(s.Best, u) {
			t.Errorf("%s: each is better", name)
		}
		light.Begin(oddText(&m), api.Boot{Light: u.Seen, Now: u.Next, Branch: u.NextBranch})
	}
}

// expectOnward sees that a store went on from another one, or stayed as it was.
func expectOnward(t *testing.T, name string, was, is api.Store, e api.Errno) {
	t.Helper()
	if e != api.OK && !sameStore(is, was) || is.Final.Beacon.Slot < was.Final.Beacon.Slot || is.Newest.Beacon.Slot < was.Newest.Beacon.Slot {
		t.Errorf("%s: error %d, from\n%s to\n%s", name, e, told(was), told(is))
	}
}

// R5: great messages and stores end, too.
func TestGreat(t *testing.T) {
	many := slices.Repeat([]string{committee(1).Keys[0]}, 1<<20)
	great := strings.Repeat("x", 1<<24)
	s := storeOf(5, 1, 0)
	s.Now.Keys = append(s.Now.Keys, many...)
	s.Best.NextBranch, s.Best.Sig = many, great
	u := good().update()
	expectApply(t, "a great store", s, u, 10, taken(s, u, 11))
	u.FinalBranch = many
	expectCheck(t, "a great branch", s, u, 10, api.ErrBranch)
	u = good().update()
	u.Next.Keys = many
	expectCheck(t, "a great committee", s, u, 10, api.ErrHead)
	u = good().update()
	u.Sig = great
	expectCheck(t, "a great signature", s, u, 10, api.ErrSig)
	b := bootOf(5, 1)
	root := ownRoot(b)
	expectNoBegin(t, "a great root", great, b, api.ErrRoot)
	b.Branch = many
	expectNoBegin(t, "a great branch", root, b, api.ErrBranch)
	b.Now.Keys = many
	expectNoBegin(t, "a great committee", root, b, api.ErrHead)
}
