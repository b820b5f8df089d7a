package trie_test

import (
	"slices"
	"sync"
	"testing"
	"unsafe"

	"pharos/api"
	"pharos/trie"
)

// answers is all that is told of pairs.
type answers struct {
	root  string
	nodes []string
	ways  [][]string
}

func answersOf(t *testing.T, l []api.Pair, keys []string) answers {
	t.Helper()
	var a answers
	var e api.Errno
	if a.root, e = trie.Root(l); e != api.OK {
		t.Errorf("Root of %s: error %d", told(l), e)
	}
	if a.nodes, e = trie.Nodes(l); e != api.OK {
		t.Errorf("Nodes of %s: error %d", told(l), e)
	}
	for _, key := range keys {
		way, e := trie.Prove(l, key)
		if e != api.OK {
			t.Errorf("Prove of %s: error %d", told(l), e)
		}
		a.ways = append(a.ways, way)
	}
	return a
}

func (a answers) same(b answers) bool {
	return a.root == b.root && slices.Equal(a.nodes, b.nodes) && slices.EqualFunc(a.ways, b.ways, slices.Equal)
}

// P6.3: pairs in every order.
func TestEveryOrder(t *testing.T) {
	for _, l := range [][]api.Pair{
		animals(),
		pairs("a", "x", "ab", "y", "ac", made(40), "b", "w", "\x00", made(31)),
		valued(30, spelt("\x11\x12\x21", 6)...),
	} {
		keys := keysNear(l)[:20]
		for _, p := range l {
			keys = append(keys, p.Key)
		}
		want := answersOf(t, l, keys)
		orders := 0
		everyOrder(slices.Clone(l), 0, func(other []api.Pair) {
			orders++
			if !answersOf(t, other, keys).same(want) {
				t.Errorf("%s are told otherwise than %s", told(other), told(l))
			}
		})
		if orders < 24 {
			t.Errorf("only %d orders of %d pairs", orders, len(l))
		}
	}
}

// everyOrder hands on l in all orders of what stands behind a place.
func everyOrder(l []api.Pair, from int, hand func([]api.Pair)) {
	if from == len(l) {
		hand(l)
		return
	}
	for i := from; i < len(l); i++ {
		l[from], l[i] = l[i], l[from]
		everyOrder(l, from+1, hand)
		l[from], l[i] = l[i], l[from]
	}
}

// P6.3: all sets turned round, sorted, sorted the other way, and stirred.
func TestOtherOrders(t *testing.T) {
	byKey := func(a, b api.Pair) int {
		if a.Key < b.Key {
			return -1
		}
		return 1
	}
	for _, x := range sets() {
		keys := keysNear(x.pairs)[:8]
		want := answersOf(t, x.pairs, keys)
		turned := slices.Clone(x.pairs)
		slices.Reverse(turned)
		up := slices.SortedFunc(slices.Values(x.pairs), byKey)
		down := slices.Clone(up)
		slices.Reverse(down)
		stirred := slices.Clone(x.pairs)
		for i := range stirred {
			j := (i*37 + 11) % len(stirred)
			stirred[i], stirred[j] = stirred[j], stirred[i]
		}
		for name, other := range map[string][]api.Pair{"turned": turned, "up": up, "down": down, "stirred": stirred} {
			if !answersOf(t, other, keys).same(want) {
				t.Errorf("%s, %s: told otherwise", x.name, name)
			}
		}
	}
}

// P6.3: no two of all choices from ten pairs have one root.
func TestEveryChoice(t *testing.T) {
	for _, all := range [][]api.Pair{
		pairs("a", "x", "b", "x", "ab", "x", "abc", "x", "\x00", "x", "\x00\x00", "x", "\x0a", "x", "\xa0", "x", "aa", "x", "ba", "x"),
		valued(29, spelt("\x11\x12", 10)...),
	} {
		seen := map[string]int{}
		for choice := range 1 << len(all) {
			var l []api.Pair
			for i, p := range all {
				if choice>>i&1 == 1 {
					l = append(l, p)
				}
			}
			root, e := trie.Root(l)
			if other, had := seen[root]; had || e != api.OK || len(root) != 32 {
				t.Errorf("the choices %b and %b have one root, %s, error %d", choice, other, short(root), e)
			}
			seen[root] = choice
		}
	}
}

// P6.3: another value, a pair more or less, another key: another root.
func TestAnotherRoot(t *testing.T) {
	for _, x := range sets() {
		root, _ := trie.Root(x.pairs)
		roots := []string{root}
		another := func(l []api.Pair) {
			if !trie.Right(l) {
				return
			}
			root, e := trie.Root(l)
			if e != api.OK || slices.Contains(roots, root) {
				t.Errorf("%s: %s have another's root, error %d", x.name, told(l), e)
			}
			roots = append(roots, root)
		}
		another(append(slices.Clone(x.pairs), api.Pair{Key: "new", Val: "x"}))
		another(append(slices.Clone(x.pairs), api.Pair{Key: "new", Val: "y"}))
		another(append(slices.Clone(x.pairs), api.Pair{Key: "\x00new", Val: "x"}))
		for i, p := range x.pairs {
			if i%(1+len(x.pairs)/4) != 0 {
				continue
			}
			with := func(key, val string) {
				other := slices.Clone(x.pairs)
				other[i] = api.Pair{Key: key, Val: val}
				another(other)
			}
			with(p.Key, changed(p.Val, 0))
			with(p.Key, changed(p.Val, len(p.Val)-1)+"\x00")
			with(p.Key, p.Val+"\x00")
			with(p.Key, "\x01"+p.Val)
			with(p.Key+"\x01", p.Val)
			with(changed(p.Key, len(p.Key)-1)+"\x02", p.Val)
			another(slices.Delete(slices.Clone(x.pairs), i, i+1))
		}
	}
}

// changed is s with the bits of one byte turned.
func changed(s string, at int) string {
	b := []byte(s)
	b[at] ^= 0xff
	return string(b)
}

// R3: what is handed in is neither written into, nor its spare room; right pairs or not.
func TestHandedIn(t *testing.T) {
	for _, l := range [][]api.Pair{
		pairs("z", "1", "b", "2", "a", "3", "c", made(40)),
		pairs("z", "1", "b", "2", "z", "3", "c", "4"),
		pairs("z", "1", "b", "", "a", "3", "c", "4"),
	} {
		room := append(slices.Clone(l), pairs("spare", "s", "more", "t")...)
		want := slices.Clone(room)
		handed := room[:len(l)]
		trie.Right(handed)
		trie.Root(handed)
		trie.Prove(handed, "b")
		trie.Nodes(handed)
		if !slices.Equal(room, want) {
			t.Errorf("%s became %s", told(want), told(room))
		}
	}
}

// R3: nothing of what is handed in is kept: neither the list, nor texts laid over bytes that are written into later; and spare room of an answer is no other one's.
func TestNothingKept(t *testing.T) {
	memory := []byte("doverbdogpuppyhorse" + made(100))
	laid := func(from, to int) string { return unsafe.String(&memory[from], to-from) }
	l := []api.Pair{{Key: laid(0, 2), Val: laid(2, 6)}, {Key: laid(6, 9), Val: laid(9, 14)}, {Key: laid(14, 19), Val: laid(19, 119)}}
	before := string(memory)
	keys := []string{"do", "dog", "horse", "doge", ""}
	want := answersOf(t, pairs("do", "verb", "dog", "puppy", "horse", made(100)), keys)
	got := answersOf(t, l, append([]string{laid(0, 2)}, keys[1:]...))
	again := answersOf(t, l, keys)
	if string(memory) != before {
		t.Error("what was handed in was written into")
	}
	clear(memory)
	clear(l)
	if !got.same(want) || len(want.nodes) < 3 {
		t.Error("what was handed in was kept")
	}
	for _, list := range append(got.ways, got.nodes) {
		list = list[:cap(list)]
		for i := range list {
			list[i] = "scribbled"
		}
	}
	if !again.same(want) {
		t.Error("two answers share memory")
	}
}

// R4: what is answered hangs on the arguments alone; calls side by side don't meet.
func TestSideBySide(t *testing.T) {
	all := sets()[:24]
	keys := []string{"", "dog", "\x12", made(64)}
	var wanted []answers
	for _, x := range all {
		wanted = append(wanted, answersOf(t, x.pairs, keys))
	}
	var workers sync.WaitGroup
	for shift := range 4 {
		workers.Go(func() {
			for i := range all {
				at := (i + shift*5) % len(all)
				if !answersOf(t, all[at].pairs, keys).same(wanted[at]) {
					t.Errorf("%s is told otherwise", all[at].name)
				}
				checkWrong(t, "side by side", pairs("a", "b", "a", "c"))
			}
		})
	}
	workers.Wait()
}

// R5: ways of great keys are answered, too: no more of one is looked at than a pair's key may have.
func TestGreatKey(t *testing.T) {
	long := made(64)
	l := pairs(long, made(50), long[:63], made(51), "a", made(52))
	great := long + made(1<<26)
	check(t, l, []string{long, great[:65], great[:128], great[:1000]})
	want, _ := trie.Prove(l, long)
	if way, e := trie.Prove(l, great); !slices.Equal(way, want) || e != api.OK || len(want) < 3 {
		t.Errorf("Prove of a great key is %x, error %d, not %x", way, e, want)
	}
	if way, e := trie.Prove(pairs("", "a"), great); len(way) > 0 || e != api.ErrTrie {
		t.Errorf("Prove of wrong pairs is %x, error %d", way, e)
	}
}
