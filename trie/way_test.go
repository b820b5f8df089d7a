package trie_test

import (
	"slices"
	"strings"
	"testing"

	"pharos/api"
	"pharos/keccak"
	"pharos/trie"
)

// P6.2: of no pairs no node is told, on whichever way.
func TestNoNodes(t *testing.T) {
	for _, l := range [][]api.Pair{nil, {}, make([]api.Pair, 0, 3)} {
		for _, key := range []string{"", "a", made(64), made(65)} {
			if way, e := trie.Prove(l, key); len(way) > 0 || e != api.OK {
				t.Errorf("Prove of %s is %x, error %d", short(key), way, e)
			}
		}
		if nodes, e := trie.Nodes(l); len(nodes) > 0 || e != api.OK {
			t.Errorf("Nodes are %x, error %d", nodes, e)
		}
	}
}

// written is pairs, all that is told of them, and which of these are told on a key's way.
type written struct {
	pairs []api.Pair
	nodes []string
	ways  map[string][]int
}

// writtenOut are tries written out by hand.
func writtenOut() []written {
	none := func(count int) string { return strings.Repeat("\x80", count) }
	val28, val29, val40, val41 := made(28), made(29), made(40), made(41)
	digest := func(node string) string { return "\xa0" + keccak.Sum(node) }

	leaf28 := "\xde\x3a\x9c" + val28
	leaf29 := "\xdf\x3b\x9d" + val29
	leaf40 := "\xea\x3a\xa8" + val40
	leaf41 := "\xeb\x3b\xa9" + val41
	// Of a leaf whose path is at its end.
	bare40 := "\xea\x20\xa8" + val40
	bare41 := "\xeb\x20\xa9" + val41
	fork := "\xf8\x51" + none(10) + digest(bare40) + digest(bare41) + none(5)
	valued := "\xf8\x51" + none(4) + digest(leaf40) + digest(leaf41) + none(10) + "x"
	return []written{
		{
			pairs("\x12", "v"),
			[]string{"\xc4\x82\x20\x12v"},
			map[string][]int{"": {0}, "\x12": {0}, "\x13": {0}, "\x12\x00": {0}, "\x22": {0}},
		},
		{ // Two leaves that stand within the first node.
			pairs("\x22", "b", "\x12", "a"),
			[]string{"\xd5" + none(1) + "\xc2\x32a" + "\xc2\x32b" + none(14)},
			map[string][]int{"": {0}, "\x12": {0}, "\x22": {0}, "\x32": {0}},
		},
		{ // Leaves of 31 bytes, and of 32.
			pairs("\x1a", val28, "\x2b", val29),
			[]string{"\xf8\x4f" + none(1) + leaf28 + digest(leaf29) + none(14), leaf29},
			map[string][]int{"": {0}, "\x1a": {0}, "\x1b": {0}, "\x2b": {0, 1}, "\x2a": {0, 1}, "\x2b\x00": {0, 1}, "\x3a": {0}},
		},
		{ // A bridge to a fork: the second half parts.
			pairs("\xcb", val41, "\xca", val40),
			[]string{"\xe2\x1c" + digest(fork), fork, bare40, bare41},
			map[string][]int{"": {0}, "\xca": {0, 1, 2}, "\xcb": {0, 1, 3}, "\xcc": {0, 1}, "\xda": {0}, "\xca\x00": {0, 1, 2}, "\xcb\xcb": {0, 1, 3}, "\x0c\xa0": {0}},
		},
		{ // A value in a list of 17, and a leaf below it.
			pairs("a", "x", "a\x4a", val40, "a\x5b", val41),
			[]string{
				"\xe4\x82\x00a" + digest(valued),
				valued,
				leaf40,
				leaf41,
			},
			map[string][]int{"": {0}, "a": {0, 1}, "b": {0}, "a\x4a": {0, 1, 2}, "a\x4b": {0, 1, 2}, "a\x5b\x00": {0, 1, 3}, "a\x6a": {0, 1}},
		},
	}
}

// P6.2: tries written out.
func TestWrittenOut(t *testing.T) {
	for _, x := range writtenOut() {
		nodes, e := trie.Nodes(x.pairs)
		if !slices.Equal(nodes, x.nodes) || e != api.OK {
			t.Errorf("Nodes of %s are %x, error %d, not %x", told(x.pairs), nodes, e, x.nodes)
		}
		if plain := plainOf(x.pairs).nodes(); !slices.Equal(plain, x.nodes) {
			t.Errorf("the plain nodes of %s are %x, not %x", told(x.pairs), plain, x.nodes)
		}
		for key, at := range x.ways {
			var want []string
			for _, i := range at {
				want = append(want, x.nodes[i])
			}
			if way, e := trie.Prove(x.pairs, key); !slices.Equal(way, want) || e != api.OK {
				t.Errorf("Prove of %x, of %s, is %x, error %d, not %x", key, told(x.pairs), way, e, want)
			}
		}
	}
}
