package trie_test

import (
	"encoding/hex"
	"fmt"
	"slices"
	"strings"
	"testing"

	"pharos/api"
	"pharos/keccak"
	"pharos/trie"
)

// P6.1: the chapter's examples, and roots that others have published.
func TestKnownRoots(t *testing.T) {
	digits := "0123456789012345678901234567890123456789"
	cases := []struct {
		root  string
		pairs []api.Pair
	}{
		{"56e81f171bcc55a6ff8345e692c0f86e5b48e01b996cadc001622fb5e363b421", nil},
		{"56e81f171bcc55a6ff8345e692c0f86e5b48e01b996cadc001622fb5e363b421", []api.Pair{}},
		{"5991bb8c6514148a29db676a14ac506cd2cd5775ace63c30a4fe457715e9ac84", animals()},
		{"8aad789dff2f538bca5d8ea56e8abe10f4c7ba3a5dea95fea4cd6e7c3a1168d3", pairs("doe", "reindeer", "dog", "puppy", "dogglesworth", "cat")},
		{"d23786fb4a010da3ce639d66d5e904a11dbc02746d1ce25029e53290cabf28ab", pairs("A", strings.Repeat("a", 50))},
		{"17beaa1648bafa633cda809c90c04af50fc8aed3cb40d16efbddee6fdf63c4c3", pairs("foo", "bar", "food", "bass")},
		{"3f67c7a47520f79faa29255d2d3c084a7a6df0453116ed7232ff10277a8be68b", pairs("be", "e", "dog", "puppy", "bed", "d")},
		{"8452568af70d8d140f58d941338542f645fcca50094b20f3c3d8c3df49337928", pairs("test", "test", "te", "testy")},
		{"285505fcabe84badc8aa310e2aae17eddc7d120aabec8a476902c8184b3a3503", pairs("\x00\x45", "\x01\x23\x45\x67\x89", "\x45\x00", "\x98\x76\x54\x32\x10")},
		{"cb65032e2f76c48b82b5c24b3db8f670ce73982869d38cd39a624f23d62a9e89", pairs("key1aa", digits+"xxx", "key1", digits+"Very_Long", "key2bb", "aval3", "key2", "short", "key3cc", "aval3", "key3", "1234567890123456789012345678901")},
	}
	for _, x := range cases {
		root, e := trie.Root(x.pairs)
		if got := hex.EncodeToString([]byte(root)); got != x.root || e != api.OK {
			t.Errorf("Root of %s is %s, error %d, not %s", told(x.pairs), got, e, x.root)
		}
		check(t, x.pairs, keysNear(x.pairs))
	}
}

// P6.1, P6.2: all sets against the plain trie.
func TestSets(t *testing.T) {
	for _, x := range sets() {
		t.Run(x.name, func(t *testing.T) {
			check(t, x.pairs, keysNear(x.pairs))
		})
	}
}

// P6.1: how many pairs there may be.
func TestHowMany(t *testing.T) {
	for _, count := range []int{0, 1, 2, 199, 200} {
		check(t, greatPairs(201)[:count], nil)
		check(t, valued(1, everyByte(3)[:count]...), nil)
	}
	for _, count := range []int{201, 202, 256} {
		checkWrong(t, fmt.Sprint(count), valued(1, everyByte(3)[:count]...))
	}
	checkWrong(t, "201 great", greatPairs(201))
	checkWrong(t, "a thousand of one", slices.Repeat(pairs("a", "b"), 1000))
	checkWrong(t, "very many", slices.Repeat(pairs("a", "b"), 1<<20))
}

// P6.1: how long keys and values may be, of one pair alone and of one among others, wherever it stands.
func TestHowLong(t *testing.T) {
	lengths := []struct {
		key, val int
		right    bool
	}{
		{1, 1, true}, {1, 1000, true}, {64, 1, true}, {64, 1000, true}, {2, 999, true}, {63, 2, true}, {32, 32, true},
		{0, 1, false}, {0, 0, false}, {1, 0, false}, {64, 0, false}, {0, 1000, false},
		{65, 1, false}, {1, 1001, false}, {65, 1001, false}, {64, 1001, false}, {65, 1000, false}, {65, 0, false}, {0, 1001, false},
		{1000, 1, false}, {1, 65536, false}, {1 << 20, 1, false}, {1, 1 << 20, false},
	}
	others := valued(30, "\x01", "\x02\x03", "\x02\x04", "\xf1"+made(60))
	for _, x := range lengths {
		one := api.Pair{Key: made(x.key), Val: made(x.val)}
		for at := range len(others) + 1 {
			for _, l := range [][]api.Pair{{one}, slices.Insert(slices.Clone(others), at, one)} {
				if x.right {
					check(t, l, []string{one.Key})
				} else {
					checkWrong(t, fmt.Sprintf("a key of %d, a value of %d bytes, at %d of %d", x.key, x.val, at, len(l)), l)
				}
			}
		}
	}
}

// P6.1: two keys that are the same, next to each other and apart, with unlike values and with one.
func TestSameKeys(t *testing.T) {
	for _, x := range sets() {
		if len(x.pairs) == 0 || len(x.pairs) >= 200 {
			continue
		}
		for _, from := range []int{0, len(x.pairs) / 2, len(x.pairs) - 1} {
			for _, to := range []int{0, len(x.pairs) / 2, from, from + 1, len(x.pairs)} {
				twin := x.pairs[from]
				checkWrong(t, x.name, slices.Insert(slices.Clone(x.pairs), to, twin))
				twin.Val = "another"
				checkWrong(t, x.name, slices.Insert(slices.Clone(x.pairs), to, twin))
			}
		}
	}
	all := valued(1, everyByte(3)[:199]...)
	for _, to := range []int{0, 100, 199} {
		checkWrong(t, "200 with one twice", slices.Insert(slices.Clone(all), to, all[50]))
	}
	// One value, or what is one key with a byte 0 behind it, is no fault.
	check(t, pairs("a", "x", "b", "x", "a\x00", "x", "A", "x"), []string{"a", "a\x00", "a\x00\x00"})
}

// P6.1: of each kind, nodes of 31 bytes stand within others, those of 32 and 33 have a digest there.
func TestNodeSizes(t *testing.T) {
	seen := map[string]int{}
	try := func(l []api.Pair) {
		t.Helper()
		check(t, l, keysNear(l))
		for name, count := range plainOf(l).sizes {
			seen[name] += count
		}
	}
	for size := 1; size < 40; size++ {
		val := made(size)
		try(pairs("\x1a", val, "\x2b", "b"))              // a leaf in a fork
		try(pairs("\x1abc", val, "\x2b", made(60)))       // one with a longer path
		try(pairs("\x1a", "a", "\x1b", val, "\x2b", "b")) // a fork in a fork
		try(pairs("\xaa", val, "\xaa\xbc", "b", "\xb0", "c"))
		try(pairs("\xaa\x1a", "a", "\xaa\x1b", val, "\xb0", "c")) // a bridge in a fork
		try(pairs("ab", "x", "ab\x1a", val))                      // a fork under a bridge
		if size < 30 {
			ahead := "\x10" + made(size)
			try(pairs(ahead+"\x10", "a", ahead+"\x20", "b", "\x20", "c")) // a bridge with a long path
		}
	}
	for _, kind := range []string{aLeaf, aBridge, aFork} {
		for _, size := range []int{30, 31, 32, 33, 34} {
			if name := fmt.Sprintf("%s %d", kind, size); seen[name] == 0 {
				t.Errorf("there was no %s", name)
			}
		}
	}
}

// P6.1: of a node whose bytes are fewer than 32, the root is a digest all the same.
func TestSmallTop(t *testing.T) {
	small := 0
	for size := 1; size < 40; size++ {
		for _, l := range [][]api.Pair{pairs("a", made(size)), pairs("\x1a", "a", "\x2b", made(size)), pairs("\xa1", "a", "\xa2", made(size))} {
			nodes, e := trie.Nodes(l)
			if e != api.OK || len(nodes) == 0 {
				t.Fatalf("Nodes of %s: %x, error %d", told(l), nodes, e)
			}
			if root, _ := trie.Root(l); root != keccak.Sum(nodes[0]) {
				t.Errorf("Root of %s is %s", told(l), short(root))
			}
			if len(nodes[0]) < 32 {
				small++
			}
		}
	}
	if small < 10 {
		t.Errorf("only %d were small", small)
	}
}
