package proof_test

import (
	"fmt"
	"slices"
	"strings"
	"testing"

	"pharos/keccak"
)

// named is bytes with a name.
type named struct{ name, bytes string }

// noItems are bytes that are no item's.
func noItems() []named {
	right := leaf("12", "v")
	return []named{
		{"no bytes", ""},
		{"a byte more", right + "\x00"},
		{"a byte less", right[:len(right)-1]},
		{"two nodes", right + right},
		{"a list's head alone", "\xc1"},
		{"a head that is too long", "\xf8\x04\x82\x20\x12v"},
		{"a form with a head that is too long", "\xc5\xb8\x02\x20\x12v"},
		{"a value with a head of its own", "\xc5\x82\x20\x12\x81v"},
		{"no text's end", "\xc4\x83\x20\x12v"},
		{"a great head", "\xff\xff\xff\xff\xff\xff\xff\xff\xff"},
	}
}

// noLists are items that are no lists.
func noLists() []named {
	return []named{
		{"a text of one byte", "a"},
		{"an empty text", "\x80"},
		{"a text of 32 bytes", text(made(32))},
		{"a text that is a node's bytes", text(leaf("12", "v"))},
	}
}

// noNodes are lists that are no nodes.
func noNodes() []named {
	right, to := leaf("12", "v"), digest("somebody")
	l := []named{
		{"a leaf of an empty value", leaf("12", "")},
		{"a leaf of an empty path and value", leaf("", "")},
		{"a leaf of a list", list(text(form("12", 2)), list())},
		{"a leaf of a list of one", list(text(form("12", 2)), list("v"))},
		{"a leaf of a node", list(text(form("12", 2)), right)},
		{"a bridge of an empty path", bridge("", to)},
		{"a bridge of an empty path to a node", bridge("", right)},
		{"a bridge to nowhere", bridge("12", "\x80")},
		{"a bridge to an empty list", bridge("12", "\xc0")},
		{"a bridge to one byte", bridge("12", "a")},
		{"a bridge to two texts", bridge("12", list("a", "b"))},
		{"a form that is a list", list(list(text(form("12", 2))), "v")},
		{"a form that is an empty list", list("\xc0", "v")},
		{"a form that is a node", list(right, to)},
		{"an empty form", list("\x80", "v")},
		{"an empty form, and a reference", list("\x80", to)},
	}
	for _, form := range []string{"\x01", "\x0f", "\x01\x01\x01", "\x21", "\x2f", "\x02\x12", "\x40", "\x41", "\x50", "\x80", "\xff", "\xa0\x12", "\x40\x12", "\x51\x23", "\x6a"} {
		l = append(l, named{fmt.Sprintf("the form %x, a value", form), list(text(form), "v")}, named{fmt.Sprintf("the form %x, a reference", form), list(text(form), to)})
	}
	for _, count := range []int{0, 1, 3, 15, 16, 18, 34, 100} {
		l = append(l,
			named{fmt.Sprintf("a list of %d empty texts", count), list(slices.Repeat([]string{"\x80"}, count)...)},
			named{fmt.Sprintf("a list of %d digests", count), list(slices.Repeat([]string{to}, count)...)},
			named{fmt.Sprintf("a list of %d, a form first", count), list(append([]string{text(form("12", 2))}, slices.Repeat([]string{"v"}, max(count-1, 0))...)...)},
		)
	}
	for _, size := range []int{1, 2, 20, 31, 33, 64, 1000} {
		other := text(made(size))
		l = append(l, named{fmt.Sprintf("a bridge to %d bytes", size), bridge("12", other)})
		for _, half := range []int{0, 1, 7, 15} {
			l = append(l, named{fmt.Sprintf("a list of 17 with %d bytes at %d", size, half), fork("v", below{half: other})})
		}
	}
	for _, half := range []int{0, 1, 2, 15} {
		for _, other := range []string{"\xc0", list("a"), list("a", "b"), leaf("12", "")} {
			l = append(l, named{fmt.Sprintf("a list of 17 with a list at %d", half), fork("v", below{half: other, 3: right})})
		}
	}
	for _, val := range []string{"\xc0", list("v"), right} {
		items := append(slices.Repeat([]string{"\x80"}, 16), val)
		l = append(l, named{"a list of 17 whose value is a list", list(items...)})
		items[1], items[4] = right, to
		l = append(l, named{"a list of 17 with nodes, whose value is a list", list(items...)})
	}
	return l
}

// keysAbout are keys that lead through the nodes of these tests, and beside them.
func keysAbout() []string {
	return []string{"\x12", "\x01", "\x11\x12", "\x11\x20", "\x10", "\x22", "\xff", "\x12\x12", "\x12\x34\x56", "\x21\x20", "\xab\x12", "\xab\x11\x12", "\x01\x23\x45"}
}

// P7.1, P7.2: a first text that is no node, though it has the digest: nothing is proven; it is told, and leads nowhere.
func TestNoNodeFirst(t *testing.T) {
	for _, x := range slices.Concat(noItems(), noLists(), noNodes()) {
		root := keccak.Sum(x.bytes)
		for _, key := range keysAbout() {
			expect(t, x.name, root, key, []string{x.bytes}, noProof)
		}
		expect(t, x.name+", more behind it", root, "\x12", []string{x.bytes, "somebody"}, noProof)
		expectTold(t, root, []string{x.bytes, "somebody"}, 1)
	}
}

// P7.1, P7.2: a later text that is no node: where the way leads to it nothing is proven, where it is not asked for it makes no difference.
func TestNoNodeBehind(t *testing.T) {
	for _, x := range slices.Concat(noItems(), noLists(), noNodes()) {
		top := fork("", below{1: digest(x.bytes), 2: leaf("2", "other"), 5: leaf("", "v")})
		root := keccak.Sum(top)
		for _, key := range []string{"\x12", "\x11\x20", "\x1f"} {
			expect(t, x.name+", on the way", root, key, []string{top, x.bytes}, noProof)
			expect(t, x.name+", left out", root, key, []string{top}, noProof)
		}
		expect(t, x.name+", beside the way", root, "\x22", []string{top}, value("other"))
		expect(t, x.name+", beside the way", root, "\x23", []string{top}, nothing)
		expect(t, x.name+", not asked for", root, "\x22", []string{top, x.bytes}, noProof)
		expectTold(t, root, []string{top, x.bytes, "somebody"}, 2)
		over := bridge("ab", digest(x.bytes))
		expect(t, x.name+", under a bridge", keccak.Sum(over), "\xab\x12", []string{over, x.bytes}, noProof)
		expect(t, x.name+", beside a bridge", keccak.Sum(over), "\xac\x12", []string{over}, nothing)
	}
}

// holders are nodes that hold another one within them, at different places, and keys that lead to it, and beside it.
func holders(inner string) []struct{ node, on, beside string } {
	return []struct{ node, on, beside string }{
		{fork("", below{1: inner, 2: leaf("2", "other")}), "\x12", "\x22"},
		{fork("v", below{0: inner}), "\x01\x20", "\x33"},
		{fork("v", below{15: inner, 14: digest("somebody")}), "\xf1", "\x0e"},
		{bridge("1", inner), "\x11", "\x21"},
		{bridge("ab", inner), "\xab\x12", "\xac\x12"},
		{fork("", below{1: fork("", below{2: inner, 3: leaf("", "third")})}), "\x12\x12", "\x13"},
		{bridge("1", fork("", below{2: inner, 3: leaf("", "third")})), "\x12\x12", "\x13"},
		{fork("", below{1: bridge("2", inner), 3: leaf("3", "third")}), "\x12\x12", "\x33"},
		{bridge("1", bridge("2", bridge("3", bridge("4", inner)))), "\x12\x34\x12", "\x12\x35"},
	}
}

// P7.1, P7.2: what stands within a node where a node may stand, and is none: then that is no node either, wherever the way leads.
func TestNoNodeWithin(t *testing.T) {
	for _, x := range slices.DeleteFunc(slices.Concat(noLists(), noNodes()), func(x named) bool {
		// These may stand there: as a reference, and as what refers to nothing.
		return x.name == "a text of 32 bytes" || x.name == "an empty text"
	}) {
		for _, h := range holders(x.bytes) {
			root := keccak.Sum(h.node)
			for _, key := range append(keysAbout(), h.on, h.beside) {
				expect(t, x.name+" within", root, key, []string{h.node}, noProof)
			}
			expectTold(t, root, []string{h.node, "somebody"}, 1)
			top := fork("", below{1: digest(h.node)})
			expect(t, x.name+" within, behind another", keccak.Sum(top), "\x1f"+h.on, []string{top, h.node}, noProof)
		}
	}
}

// P7.1: what is a node, though it looks odd: it proves what it says.
func TestRightNodes(t *testing.T) {
	many := made(1500)
	cases := []struct {
		name, node, key string
		want            answer
	}{
		{"a value of one byte 0", leaf("12", "\x00"), "\x12", value("\x00")},
		{"a value of a byte 80", leaf("12", "\x80"), "\x12", value("\x80")},
		{"a great value", leaf("12", many), "\x12", value(many)},
		{"a value of 32 bytes", leaf("12", made(32)), "\x12", value(made(32))},
		{"a value that is a node's bytes", leaf("12", leaf("", "v")), "\x12", value(leaf("", "v"))},
		{"a leaf of an empty path", leaf("", "v"), "\x12", nothing},
		{"a leaf of a long path", leaf(strings.Repeat("12", 200), "v"), "\x12", nothing},
		{"a list of 17 empty texts", fork("", nil), "\x12", nothing},
		{"a list of 17 with a value alone", fork("v", nil), "\x12", nothing},
		{"a bridge to a list of 17 empty texts", bridge("12", fork("", nil)), "\x12", nothing},
		{"a bridge to a value", bridge("12", fork("v", nil)), "\x12", value("v")},
		{"a bridge to a great value", bridge("12", fork(many, nil)), "\x12", value(many)},
		{"a bridge to a bare leaf", bridge("12", leaf("", "v")), "\x12", value("v")},
		{"a bridge to a leaf", bridge("1", leaf("2", "v")), "\x12", value("v")},
		{"a bridge to a bridge", bridge("1", bridge("2", fork("v", nil))), "\x12", value("v")},
		{"a bridge of a long path", bridge(strings.Repeat("12", 64), leaf("", "v")), strings.Repeat("\x12", 64), value("v")},
		{"a bridge beyond all keys", bridge(strings.Repeat("12", 64)+"3", leaf("", "v")), strings.Repeat("\x12", 64), nothing},
		{"a great node within", fork("", below{1: leaf("2", many)}), "\x12", value(many)},
		{"a node of 32 bytes within", fork("", below{1: leaf("2", made(29))}), "\x12", value(made(29))},
		{"a node of 33 bytes within", bridge("1", leaf("2", made(30))), "\x12", value(made(30))},
		{"a list of 17 within", fork("", below{1: fork("", below{2: fork("v", nil)})}), "\x12", value("v")},
		{"sixteen within", fork("all", below{0: leaf("", "a"), 1: leaf("2", "b"), 2: leaf("2", "c"), 15: leaf("2", "d")}), "\xf2", value("d")},
		{"an empty place", fork("all", below{0: leaf("", "a"), 2: leaf("2", "c"), 15: leaf("2", "d")}), "\x12", nothing},
	}
	for _, x := range cases {
		expect(t, x.name, keccak.Sum(x.node), x.key, []string{x.node}, x.want)
		for _, key := range keysAbout() {
			expectPlain(t, x.name, keccak.Sum(x.node), key, []string{x.node})
		}
	}
}

// P7.1: items may be twelve deep: eleven lists within each other, and their texts.
func TestHowDeep(t *testing.T) {
	key := strings.Repeat("\x11", 32)
	for lists := 1; lists <= 20; lists++ {
		toDigest, toLeaf := bridge("1", digest("somebody")), leaf(strings.Repeat("1", 64-lists+1), "v")
		for range lists - 1 {
			toDigest, toLeaf = bridge("1", toDigest), bridge("1", toLeaf)
		}
		want, aside, count := value("v"), nothing, 2
		if lists > 11 {
			want, aside, count = noProof, noProof, 1
		}
		expect(t, fmt.Sprint(lists, " lists, a leaf"), keccak.Sum(toLeaf), key, []string{toLeaf}, want)
		expect(t, fmt.Sprint(lists, " lists, beside them"), keccak.Sum(toDigest), "\x22", []string{toDigest}, aside)
		expectTold(t, keccak.Sum(toDigest), []string{toDigest, "somebody"}, count)
	}
	deep := strings.Repeat("\xc1", 1000) + "\xc0"
	expect(t, "very deep", keccak.Sum(deep), key, []string{deep}, noProof)
}

// P7.1, P7.2: all forms of one byte and some of two, ahead of a value, of a digest and of a node.
func TestForms(t *testing.T) {
	var forms []string
	for first := range 256 {
		forms = append(forms, string([]byte{byte(first)}), string([]byte{byte(first), 0x12}))
	}
	seen := map[answer]int{}
	for _, form := range forms {
		for _, behind := range []string{"v", text(made(32)), digest("somebody"), leaf("2", "v"), fork("v", nil), "\x80", text(made(31)), "\xc0"} {
			node := list(text(form), behind)
			for _, key := range []string{"\x12", "\x11", form, form[1:] + "\x12", string([]byte{form[0]<<4 | 2})} {
				if key != "" {
					seen[expectPlain(t, "a form", keccak.Sum(node), key, []string{node})]++
				}
			}
			expectLead(t, "a form", keccak.Sum(node), []string{node, "somebody"})
		}
	}
	if seen[value("v")] < 10 || seen[value(made(32))] < 1 || seen[nothing] < 100 || seen[noProof] < 1000 {
		t.Errorf("answers were %v", seen)
	}
}
