package proof_test

import (
	"encoding/hex"
	"fmt"
	"math/rand/v2"
	"slices"
	"strings"
	"sync"
	"testing"
	"unsafe"

	"pharos/api"
	"pharos/keccak"
	"pharos/proof"
	"pharos/trie"
)

// P7.3: ways prove what the trie has, under its root, of all keys near.
func TestWaysProve(t *testing.T) {
	for _, x := range sets() {
		root := rootOf(t, x.pairs)
		for _, key := range keysNear(x.pairs) {
			way := wayOf(t, x.pairs, key)
			expect(t, x.name, root, key, way, truth(x.pairs, key))
			if lead, e := proof.Lead(root, way); !slices.Equal(lead, way) || e != api.OK {
				t.Errorf("%s: Lead of the way of %s is %s, error %d", x.name, short(key), told(lead), e)
			}
		}
	}
}

// P7.3: the greatest trie there may be.
func TestGreatTrie(t *testing.T) {
	var l []api.Pair
	for i := range 200 {
		key, val := []byte(made(64)), []byte(made(1000))
		key[i%7*9], key[63] = byte(i), byte(i*5)
		val[i], val[999] = byte(i), byte(i)
		l = append(l, api.Pair{Key: string(key), Val: string(val)})
	}
	root := rootOf(t, l)
	for _, p := range l[:40] {
		expect(t, "great", root, p.Key, wayOf(t, l, p.Key), value(p.Val))
		other := changed(p.Key, 63, 1)
		expect(t, "great", root, other, wayOf(t, l, other), truth(l, other))
	}
}

// honest sees that texts prove what the trie has, or nothing, and says whether they prove something.
func honest(t *testing.T, name string, l []api.Pair, root, key string, texts []string) bool {
	t.Helper()
	val, there, e := proof.Check(root, key, texts)
	got := answer{val, there, e}
	if got != noProof && got != truth(l, key) {
		t.Errorf("%s: Check of key %s, %s is %v, but the trie has %v", name, short(key), told(texts), got, truth(l, key))
	}
	return got != noProof
}

// P7.3: the ways of other keys, of other tries, prove what the trie has, or nothing.
func TestOtherWays(t *testing.T) {
	all := sets()
	proven := 0
	for i, x := range all {
		root := rootOf(t, x.pairs)
		keys := some(keysNear(x.pairs), 30)
		other := all[(i+1)%len(all)].pairs
		for at, key := range keys {
			foreign := wayOf(t, other, key)
			if honest(t, x.name+", of another trie", x.pairs, root, key, foreign) && root != rootOf(t, other) {
				t.Errorf("%s: the way of another trie proves something of %s", x.name, short(key))
			}
			for step := 1; step < min(5, len(keys)); step++ {
				if honest(t, x.name, x.pairs, root, key, wayOf(t, x.pairs, keys[(at+step)%len(keys)])) {
					proven++
				}
			}
		}
	}
	if proven < 100 {
		t.Errorf("only %d other ways proved something", proven)
	}
}

// P7.3: of small tries all rows of at most four of their nodes, and of some others: no more than one row proves something of a key, and that is what the trie has.
func TestAllRows(t *testing.T) {
	for _, x := range sets() {
		nodes, e := trie.Nodes(x.pairs)
		if e != api.OK || len(nodes) > 4 {
			continue
		}
		nodes = append(nodes, "\x80", leaf("12", "v"))
		root := rootOf(t, x.pairs)
		for _, key := range some(keysNear(x.pairs), 12) {
			proven := map[string]int{}
			everyRow(nodes, nil, 4, func(row []string) {
				if honest(t, x.name, x.pairs, root, key, row) {
					proven[fmt.Sprintf("%x", row)]++
				}
			})
			if len(proven) != 1 {
				t.Errorf("%s: %d rows prove something of %s", x.name, len(proven), short(key))
			}
		}
	}
}

// everyRow hands on all rows of at most so many texts behind those that are there.
func everyRow(texts, row []string, most int, hand func([]string)) {
	hand(row)
	if most == 0 {
		return
	}
	for _, s := range texts {
		everyRow(texts, append(slices.Clone(row), s), most-1, hand)
	}
}

// maker makes nodes by chance, right ones and others, of few half bytes, so that paths meet.
type maker struct {
	*rand.Rand
	byDigest map[string]string
	others   []named // those that are no nodes
	wrong    int     // one of so many is wrong
}

func (m maker) digits(least, most int) string {
	var digits strings.Builder
	for range least + m.IntN(most-least+1) {
		digits.WriteByte("012f"[m.IntN(4)])
	}
	return digits.String()
}

func (m maker) val() string { return made(1 + m.IntN(40)) }

// reference is bytes of a node within, or of a digest.
func (m maker) reference(deep int) string {
	node := m.node(deep)
	switch {
	case m.IntN(m.wrong) == 0:
		return text(made(31 + m.IntN(3)))
	case m.IntN(2) == 0:
		return node
	}
	m.byDigest[keccak.Sum(node)] = node
	return digest(node)
}

func (m maker) node(deep int) string {
	switch {
	case m.IntN(m.wrong) == 0:
		return m.others[m.IntN(len(m.others))].bytes
	case deep == 0 || m.IntN(4) == 0:
		return leaf(m.digits(0, 3), m.val())
	case m.IntN(3) == 0:
		return bridge(m.digits(1, 3), m.reference(deep-1))
	}
	to := below{}
	for _, half := range []int{0, 1, 2, 15} {
		if m.IntN(4) > 0 {
			to[half] = m.reference(deep - 1)
		}
	}
	val := ""
	if m.IntN(2) == 0 {
		val = m.val()
	}
	return fork(val, to)
}

// way is the texts that a key asks for under a root, as far as there are any.
func (m maker) way(root, key string) []string {
	var texts []string
	plainItem{text: root}.under(hex.EncodeToString([]byte(key)), func(digest string) (string, bool) {
		node, had := m.byDigest[digest]
		if had {
			texts = append(texts, node)
		}
		return node, had
	})
	return texts
}

// valued adds the paths, of whole bytes, at which values stand under a reference, wherever node texts are there and read so.
func (m maker) valued(x plainItem, ahead string, paths *[]string) {
	if !x.isList {
		var ok bool
		if x, ok = plainNode(m.byDigest[x.text]); !ok {
			return
		}
	}
	path := ahead
	if len(x.items) == 17 {
		for half, reference := range x.items[:16] {
			if reference.isList || reference.text != "" {
				m.valued(reference, ahead+fmt.Sprintf("%x", half), paths)
			}
		}
	} else {
		more, leaf, _ := x.items[0].path()
		path += more
		if !leaf {
			m.valued(x.items[1], path, paths)
			return
		}
	}
	if len(path)%2 == 0 && path != "" {
		*paths = append(*paths, path)
	}
}

// P7.1, P7.2: nodes by chance, with the texts that their keys ask for, and with others, against the plain reading.
func TestByChance(t *testing.T) {
	seen := map[string]int{}
	others := noNodes()
	for seed := range uint64(1500) {
		m := maker{rand.New(rand.NewPCG(seed, 7)), map[string]string{}, others, 30 + int(seed%3)*100}
		top := m.node(4)
		root := keccak.Sum(top)
		m.byDigest[root] = top
		var paths []string
		m.valued(plainItem{text: root}, "", &paths)
		for range 8 {
			digits := m.digits(2, 10)
			if len(paths) > 0 && m.IntN(3) > 0 {
				digits = paths[m.IntN(len(paths))]
			}
			key := unhex(digits[:len(digits)/2*2])
			way := m.way(root, key)
			got := expectPlain(t, "by chance", root, key, way)
			switch {
			case got.there:
				seen["there"]++
			case got == nothing:
				seen["nothing"]++
			case got == noProof:
				seen["no proof"]++
			}
			seen["texts"] = max(seen["texts"], len(way))
			expectPlain(t, "by chance, another key", root, key+"\x01", way)
			at := m.IntN(len(way))
			expectPlain(t, "by chance, one too few", root, key, slices.Delete(slices.Clone(way), at, at+1))
			expectPlain(t, "by chance, one more", root, key, slices.Insert(slices.Clone(way), at, m.node(1)))
			// The digest is made anew, so that what is changed is read.
			other := slices.Clone(way)
			other[0] = changed(top, m.IntN(len(top)), 1<<m.IntN(8))
			expectPlain(t, "by chance, another byte", keccak.Sum(other[0]), key, other)
		}
	}
	if seen["there"] < 500 || seen["nothing"] < 500 || seen["no proof"] < 500 || seen["texts"] < 4 {
		t.Errorf("seen were %v", seen)
	}
}

// P7.1, P7.2: of some nodes what comes of another byte at any place, under the root that that has.
func TestEveryByte(t *testing.T) {
	next := leaf("34", "next")
	for _, node := range []string{
		leaf("12", "v"),
		bridge("12", digest(next)),
		bridge("12", leaf("34", "v")),
		fork("v", below{1: leaf("2", "v"), 2: digest(next)}),
		bridge("1", fork("", below{2: bridge("3", fork("x", nil)), 3: leaf("", "w")})),
	} {
		for at := range len(node) {
			for bits := 0; bits < 256; bits += 3 {
				other := changed(node, at, byte(bits))
				root := keccak.Sum(other)
				for _, key := range []string{"\x12", "\x12\x34", "\x23\x4f", "\x13"} {
					expectPlain(t, "another byte", root, key, []string{other})
				}
				expectPlain(t, "another byte", root, "\x12\x34", []string{other, next})
			}
		}
	}
}

// R3: what is handed in is neither written into, nor its spare room; whatever is answered.
func TestHandedIn(t *testing.T) {
	l := animals()
	root := rootOf(t, l)
	way := wayOf(t, l, "dog")
	for _, handed := range [][]string{way, way[1:], append(slices.Clone(way), "x"), make([]string, 141), {made(65537)}, {"\x80"}} {
		room := append(slices.Clone(handed), "spare", "more")
		want := slices.Clone(room)
		texts := room[:len(handed)]
		proof.Check(root, "dog", texts)
		proof.Check(root, "", texts)
		proof.Lead(root, texts)
		if !slices.Equal(room, want) {
			t.Errorf("%s became %s", told(want), told(room))
		}
	}
}

// R3: nothing of what is handed in is kept: neither the list, nor texts laid over bytes that are written into later; and spare room of an answer is no other one's.
func TestNothingKept(t *testing.T) {
	l := pairs("do", made(50), "dog", made(60), "horse", made(70))
	root := rootOf(t, l)
	way := wayOf(t, l, "dog")
	memory := []byte(root + "dog" + strings.Join(way, ""))
	before := string(memory)
	at := 0
	laid := func(size int) string {
		at += size
		return unsafe.String(&memory[at-size], size)
	}
	laidRoot, laidKey := laid(32), laid(3)
	var texts []string
	for _, s := range way {
		texts = append(texts, laid(len(s)))
	}
	val, there, e := proof.Check(laidRoot, laidKey, texts)
	lead, leadE := proof.Lead(laidRoot, texts)
	again, _ := proof.Lead(laidRoot, texts)
	if string(memory) != before {
		t.Error("what was handed in was written into")
	}
	clear(memory)
	clear(texts)
	if (answer{val, there, e}) != value(made(60)) {
		t.Errorf("Check kept what was handed in: %s, %v, error %d", short(val), there, e)
	}
	if !slices.Equal(lead, way) || leadE != api.OK || len(way) < 3 {
		t.Errorf("Lead kept what was handed in: %s, error %d", told(lead), leadE)
	}
	lead = lead[:cap(lead)]
	for i := range lead {
		lead[i] = "scribbled"
	}
	if !slices.Equal(again, way) {
		t.Error("two answers share memory")
	}
	expect(t, "afterwards", root, "dog", way, value(made(60)))
}

// R4: what is answered hangs on the arguments alone; calls side by side don't meet.
func TestSideBySide(t *testing.T) {
	all := sets()[:24]
	var workers sync.WaitGroup
	for shift := range 4 {
		workers.Go(func() {
			for i := range all {
				x := all[(i+shift*5)%len(all)]
				root := rootOf(t, x.pairs)
				for _, key := range some(keysNear(x.pairs), 4) {
					way := wayOf(t, x.pairs, key)
					expect(t, x.name, root, key, way, truth(x.pairs, key))
					expect(t, x.name, root, key, append(way, "x"), noProof)
				}
			}
		})
	}
	workers.Wait()
}
