package mint_test

import (
	"fmt"
	"slices"
	"strings"
	"sync"
	"testing"
	"unsafe"

	"pharos/api"
	"pharos/head"
	"pharos/light"
	"pharos/mint"
)

// mixer mixes numbers, always the same.
type mixer uint64

func (m *mixer) next() uint64 {
	*m += 0x9e3779b97f4a7c15
	x := uint64(*m)
	x = (x ^ x>>30) * 0xbf58476d1ce4e5b9
	x = (x ^ x>>27) * 0x94d049bb133111eb
	return x ^ x>>31
}

func (m *mixer) below(n uint64) uint64 { return m.next() % n }

func oneOf[T any](m *mixer, l ...T) T { return l[m.below(uint64(len(l)))] }

// slot is any, a small one often.
func (m *mixer) slot() uint64 {
	return oneOf(m, m.below(64), m.below(400), m.next(), oneOf(m, slots...))
}

func (m *mixer) secrets() []uint64 {
	var l []uint64
	for range api.Members {
		l = append(l, oneOf(m, 1+m.below(order-1), 1+m.below(5), order-1-m.below(5)))
	}
	return l
}

func (m *mixer) root() string { return made(32, int(m.below(255))) }

func (m *mixer) plan() api.Plan {
	return api.Plan{
		Seen:     m.slot(),
		Slot:     m.slot(),
		Final:    oneOf(m, 0, m.slot()),
		Now:      m.secrets(),
		Next:     oneOf(m, nil, m.secrets()),
		Bits:     oneOf(m, m.next(), everyone, m.below(everyone+1)),
		Accounts: m.root(),
		Receipts: m.root(),
	}
}

// P15.1, P15.2: at any slots, secrets and roots the answers are those of a plain reckoning.
func TestMixed(t *testing.T) {
	m := mixer(1)
	for n := range 200 {
		name := fmt.Sprint("mixed ", n)
		expectCommittee(t, name, m.secrets())
		expectLight(t, name, m.slot(), m.root(), m.root(), m.root())
		expectBoot(t, name, m.slot(), m.secrets(), m.root(), m.root())
		expectUpdate(t, name, m.plan())
	}
}

// P15.3: a Light that was made holds, those of Boots and updates too; a Boot that was made begins a store.
func TestFollows(t *testing.T) {
	m := mixer(2)
	for n := range 200 {
		name := fmt.Sprint("follows ", n)
		l, _ := mint.Light(m.slot(), m.root(), m.root(), m.root())
		root, b, _ := mint.Boot(m.slot(), m.secrets(), m.root(), m.root())
		p := m.plan()
		u, _ := mint.Update(p)
		if !head.Holds(l) || !head.Holds(b.Light) || !head.Holds(u.Seen) || head.Holds(u.Final) != (p.Final != 0) {
			t.Errorf("%s: one of the Lights does not hold:\n%x\n%x\n%x\n%x", name, l, b.Light, u.Seen, u.Final)
		}
		expectBegin(t, name, root, b)
		if _, e := light.Begin(changed(root), b); e != api.ErrRoot {
			t.Errorf("%s: Begin with another root answers error %d", name, e)
		}
	}
}

func changed(root string) string { return root[:31] + string([]byte{root[31] ^ 1}) }

// P15.3: what was made goes through bytes, and back.
func TestThroughBytes(t *testing.T) {
	m := mixer(3)
	for n := range 50 {
		_, b, _ := mint.Boot(m.slot(), m.secrets(), m.root(), m.root())
		u, _ := mint.Update(m.plan())
		first, e := head.BootBytes(b)
		second, f := head.Bytes(u)
		backBoot, g := head.BootFrom(first)
		back, h := head.From(second)
		if e != 0 || f != 0 || g != 0 || h != 0 || told(b) != told(backBoot) || told(u) != told(back) {
			t.Errorf("bytes %d: errors %d, %d, %d, %d", n, e, f, g, h)
		}
	}
}

// laid lays texts over bytes of their own; what is answered clears these.
func laid(texts ...*string) (wipe func()) {
	var all [][]byte
	for _, at := range texts {
		b := []byte(*at)
		all = append(all, b)
		*at = unsafe.String(unsafe.SliceData(b), len(b))
	}
	return func() {
		for _, b := range all {
			clear(b)
		}
	}
}

// R3: what is answered is new memory: texts and lists that are written into later leave it as it was.
func TestNothingKept(t *testing.T) {
	a, r, s, l := accounts, receipts, made(32, 3), secrets(1)
	wantLight, wantUpdate := plainLight(3, a, r, s), plainUpdate(plan())
	wantRoot, wantBoot := plainBoot(3, l, a, r)
	p := plan()
	wipe := laid(&a, &r, &s, &p.Accounts, &p.Receipts)
	gotLight, _ := mint.Light(3, a, r, s)
	root, boot, _ := mint.Boot(3, l, a, r)
	update, _ := mint.Update(p)
	wipe()
	clear(l)
	clear(p.Now)
	clear(p.Next)
	if told(gotLight) != told(wantLight) || root != wantRoot || told(boot) != told(wantBoot) || told(update) != told(wantUpdate) {
		t.Errorf("what was handed in was kept:\n%x\n%x\n%x\n%x", gotLight, root, boot, update)
	}
}

// R3: neither secrets nor their spare room are written into.
func TestNothingWritten(t *testing.T) {
	for _, n := range []uint64{5, 0, order} {
		now, next := roomy(with(secrets(1), 12, n)), roomy(with(secrets(40), 3, n))
		p := plan()
		p.Now, p.Next = now, next
		mint.Committee(now)
		mint.Boot(3, next, accounts, receipts)
		mint.Update(p)
		p.Now, p.Next = next[:15], now[:3]
		mint.Update(p)
		for _, l := range [][]uint64{now, next} {
			if slices.ContainsFunc(l[16:cap(l)], func(n uint64) bool { return n != 0 }) {
				t.Errorf("%d among the secrets: spare room was written into: %d", n, l[:cap(l)])
			}
		}
		if !slices.Equal(now, with(secrets(1), 12, n)) || !slices.Equal(next, with(secrets(40), 3, n)) {
			t.Errorf("%d among the secrets: these were written into: %d, %d", n, now, next)
		}
	}
}

// roomy is a list with spare room, of zeros.
func roomy(l []uint64) []uint64 { return append(make([]uint64, 0, len(l)+9), l...) }

// updateLists are the places of an update's lists.
func updateLists(u *api.Update) []*[]string {
	return []*[]string{&u.Seen.Branch, &u.Next.Keys, &u.NextBranch, &u.Final.Branch, &u.FinalBranch}
}

// writeOver writes into all of a list, and into its spare room.
func writeOver(l []string) {
	for i := range l[:cap(l)] {
		l[:cap(l)][i] = "written"
	}
}

// R3: no two lists of an answer share memory, nor two answers.
func TestListsApart(t *testing.T) {
	p := plan()
	p.Next = p.Now
	p.Final = p.Seen
	was, _ := mint.Update(p)
	for i := range updateLists(&was) {
		got, _ := mint.Update(p)
		want := plainUpdate(p)
		writeOver(*updateLists(&got)[i])
		list := updateLists(&want)[i]
		*list = slices.Repeat([]string{"written"}, len(*list))
		if told(got) != told(want) {
			t.Errorf("the list %d of an update shares memory with another one", i)
		}
	}
	if told(was) != told(plainUpdate(p)) {
		t.Error("two updates share memory")
	}
	root, b, _ := mint.Boot(3, secrets(1), accounts, receipts)
	for i := range 3 {
		_, got, _ := mint.Boot(3, secrets(1), accounts, receipts)
		_, want := plainBoot(3, secrets(1), accounts, receipts)
		writeOver(*bootLists(&got)[i])
		list := bootLists(&want)[i]
		*list = slices.Repeat([]string{"written"}, len(*list))
		if told(got) != told(want) {
			t.Errorf("the list %d of a Boot shares memory with another one", i)
		}
	}
	if own, want := plainBoot(3, secrets(1), accounts, receipts); root != own || told(b) != told(want) {
		t.Error("two Boots share memory")
	}
}

func bootLists(b *api.Boot) []*[]string {
	return []*[]string{&b.Light.Branch, &b.Now.Keys, &b.Branch}
}

// R3: no next secrets are none, nil or not; what is answered has no lists then.
func TestEmptyLists(t *testing.T) {
	for _, next := range [][]uint64{nil, {}, roomy(nil)} {
		p := plan()
		p.Next, p.Final = next, 0
		u, e := mint.Update(p)
		if e != api.OK || u.Next.Keys != nil || u.NextBranch != nil || u.FinalBranch != nil || u.Final.Branch != nil {
			t.Errorf("error %d, and %x", e, u)
		}
		expectUpdate(t, "no next", p)
		expectNoCommittee(t, "no secrets", next)
	}
}

// R4: what is answered hangs on the arguments alone; calls side by side don't meet.
func TestSideBySide(t *testing.T) {
	l, p := secrets(1), plan()
	var workers sync.WaitGroup
	for n := range uint64(4) {
		workers.Go(func() {
			for i := range 5 {
				name := fmt.Sprint("worker ", n, ", ", i)
				expectCommittee(t, name, l)
				expectLight(t, name, n, accounts, receipts, zeros)
				expectBoot(t, name, n, l, accounts, receipts)
				expectUpdate(t, name, p)
				expectNoUpdate(t, name, api.Plan{Now: l})
			}
		})
	}
	workers.Wait()
}

// R5: great lists and texts end, too.
func TestGreat(t *testing.T) {
	many := slices.Repeat(secrets(1), 1<<20)
	text := strings.Repeat("x", 1<<26)
	expectNoCommittee(t, "great", many)
	expectNoLight(t, "great accounts", 3, text, receipts, zeros)
	expectNoLight(t, "great receipts", 3, accounts, text, zeros)
	expectNoLight(t, "a great state", 3, accounts, receipts, text)
	expectNoBoot(t, "great", 3, many, accounts, receipts)
	expectNoBoot(t, "great roots", 3, secrets(1), text, text)
	for name, change := range map[string]func(p *api.Plan){
		"Now":      func(p *api.Plan) { p.Now = many },
		"Next":     func(p *api.Plan) { p.Next = many },
		"Accounts": func(p *api.Plan) { p.Accounts = text },
		"Receipts": func(p *api.Plan) { p.Receipts = text },
	} {
		p := plan()
		change(&p)
		expectNoUpdate(t, "a great "+name, p)
	}
}

// R1: at all numbers, texts and lists calls end, and none panics; what is no plan's answers ErrArg, and else nothing.
func TestOdd(t *testing.T) {
	m := mixer(4)
	oddList := func() []uint64 {
		l := append(m.secrets(), m.secrets()...)[:oneOf(&m, 0, 15, 16, 16, 16, 16, 16, 17, 32)]
		if len(l) > 0 && m.below(4) == 0 {
			l[m.below(uint64(len(l)))] = oneOf(&m, noSecrets...)
		}
		return l
	}
	right := func(l []uint64) bool {
		return len(l) == 16 && !slices.ContainsFunc(l, func(n uint64) bool { return n < 1 || n >= order })
	}
	oddRoot := func() string {
		return oneOf(&m, zeros, accounts, m.root(), m.root(), m.root(), m.root(), oneOf(&m, noRoots...))
	}
	for n := range 300 {
		name := fmt.Sprint("odd ", n)
		p := api.Plan{Seen: m.next(), Slot: m.slot(), Final: m.slot(), Now: oddList(), Next: oddList(), Bits: m.next(), Accounts: oddRoot(), Receipts: oddRoot()}
		roots := len(p.Accounts) == 32 && len(p.Receipts) == 32
		expect := map[bool]func(*testing.T, string, api.Plan){true: expectUpdate, false: expectNoUpdate}
		expect[roots && right(p.Now) && (len(p.Next) == 0 || right(p.Next))](t, name, p)
		if roots && right(p.Now) {
			expectBoot(t, name, p.Seen, p.Now, p.Accounts, p.Receipts)
		} else {
			expectNoBoot(t, name, p.Seen, p.Now, p.Accounts, p.Receipts)
		}
	}
}
