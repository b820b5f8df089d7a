package trie_test

import (
	"encoding/binary"
	"encoding/hex"
	"fmt"
	"slices"
	"strings"
	"testing"

	"pharos/api"
	"pharos/keccak"
	"pharos/nibs"
	"pharos/rlp"
	"pharos/trie"
)

// The tests have a plain trie of their own: pairs are put into it one by one, digit by digit of their keys, unsorted, and bytes are written as texts. Its ways are read from these bytes.

// plainNode is a place of the plain trie: one for each half byte of a key.
type plainNode struct {
	below [16]*plainNode
	val   string
}

// plainTrie is what comes of one: the bytes of the node of all, and all that are referred to by digests; how many nodes of which kind and of how many bytes are referred to.
type plainTrie struct {
	top   string
	byRef map[string]string
	sizes map[string]int
}

const (
	aLeaf   = "leaf"
	aBridge = "bridge"
	aFork   = "fork"
)

func plainOf(l []api.Pair) plainTrie {
	var top plainNode
	for _, p := range l {
		at := &top
		for _, digit := range hex.EncodeToString([]byte(p.Key)) {
			next := &at.below[strings.IndexRune("0123456789abcdef", digit)]
			if *next == nil {
				*next = &plainNode{}
			}
			at = *next
		}
		at.val = p.Val
	}
	made := plainTrie{byRef: map[string]string{}, sizes: map[string]int{}}
	made.top = "\x80"
	if len(l) > 0 {
		made.top, _ = made.bytes(&top, "")
	}
	return made
}

// bytes is the bytes and the kind of the node that begins so many digits ahead of a place.
func (p plainTrie) bytes(at *plainNode, ahead string) (string, string) {
	var only, count int
	for half, below := range at.below {
		if below != nil {
			only = half
			count++
		}
	}
	switch {
	case count == 0:
		return plainList(plainText(plainForm(ahead, 2)), plainText(at.val)), aLeaf
	case count == 1 && at.val == "":
		return p.bytes(at.below[only], ahead+fmt.Sprintf("%x", only))
	}
	var items []string
	for _, below := range at.below {
		if below == nil {
			items = append(items, "\x80")
		} else {
			items = append(items, p.reference(p.bytes(below, "")))
		}
	}
	fork := plainList(append(items, plainText(at.val))...)
	if ahead == "" {
		return fork, aFork
	}
	return plainList(plainText(plainForm(ahead, 0)), p.reference(fork, aFork)), aBridge
}

func (p plainTrie) reference(bytes, kind string) string {
	p.sizes[fmt.Sprintf("%s %d", kind, len(bytes))]++
	if len(bytes) <= 31 {
		return bytes
	}
	digest := keccak.Sum(bytes)
	p.byRef[digest] = bytes
	return plainText(digest)
}

// plainForm is the form of a path of digits: mark is 2 for a leaf's.
func plainForm(digits string, mark int) string {
	if len(digits)%2 == 0 {
		digits = fmt.Sprintf("%x0", mark) + digits
	} else {
		digits = fmt.Sprintf("%x", mark+1) + digits
	}
	form, err := hex.DecodeString(digits)
	if err != nil {
		panic(err)
	}
	return string(form)
}

func plainText(s string) string {
	if len(s) == 1 && s[0] <= 0x7f {
		return s
	}
	return plainHead(0x80, len(s)) + s
}

func plainList(items ...string) string {
	body := strings.Join(items, "")
	return plainHead(0xc0, len(body)) + body
}

func plainHead(base byte, size int) string {
	if size <= 55 {
		return string([]byte{base + byte(size)})
	}
	number := strings.TrimLeft(string(binary.BigEndian.AppendUint64(nil, uint64(size))), "\x00")
	return string([]byte{base + 55 + byte(len(number))}) + number
}

// nodes is what is told of all nodes, read from their bytes.
func (p plainTrie) nodes() []string {
	if p.top == "\x80" {
		return nil
	}
	told := []string{p.top}
	p.tellBelow(itemOf(p.top), &told)
	return told
}

func (p plainTrie) tellBelow(node api.Item, told *[]string) {
	for _, reference := range referencesOf(node) {
		if reference.IsList {
			p.tellBelow(reference, told)
		} else if reference.Text != "" {
			*told = append(*told, p.byRef[reference.Text])
			p.tellBelow(itemOf(p.byRef[reference.Text]), told)
		}
	}
}

// way is what is told of a key's way, read from the nodes' bytes, and the value that it leads to.
func (p plainTrie) way(key string) (told []string, val string) {
	if p.top == "\x80" {
		return nil, ""
	}
	told = []string{p.top}
	node, path := itemOf(p.top), nibs.Of(key)
	for {
		reference, isFork := api.Item{}, len(node.List) == 17
		switch {
		case isFork && path == "":
			return told, node.List[16].Text
		case isFork:
			reference, path = node.List[path[0]], path[1:]
		default:
			ahead, isLeaf, _ := nibs.Read(node.List[0].Text)
			if isLeaf && path == ahead {
				return told, node.List[1].Text
			}
			if isLeaf || !strings.HasPrefix(path, ahead) {
				return told, ""
			}
			reference, path = node.List[1], path[len(ahead):]
		}
		switch {
		case reference.IsList:
			node = reference
		case reference.Text == "":
			return told, ""
		default:
			told = append(told, p.byRef[reference.Text])
			node = itemOf(p.byRef[reference.Text])
		}
	}
}

func itemOf(bytes string) api.Item {
	item, e := rlp.Decode(bytes)
	if e != api.OK {
		panic("a node's bytes are no item's: " + short(bytes))
	}
	return item
}

func referencesOf(node api.Item) []api.Item {
	if len(node.List) == 17 {
		return node.List[:16]
	}
	if _, isLeaf, _ := nibs.Read(node.List[0].Text); isLeaf {
		return nil
	}
	return node.List[1:]
}

// check holds all that is told of right pairs against the plain trie, for all those keys, too.
func check(t *testing.T, l []api.Pair, keys []string) {
	t.Helper()
	plain := plainOf(l)
	if !trie.Right(l) {
		t.Errorf("Right of %s is false", told(l))
	}
	if root, e := trie.Root(l); root != keccak.Sum(plain.top) || e != api.OK {
		t.Errorf("Root of %s is %s, error %d", told(l), short(root), e)
	}
	if nodes, e := trie.Nodes(l); !slices.Equal(nodes, plain.nodes()) || e != api.OK {
		t.Errorf("Nodes of %s are %x, error %d, not %x", told(l), nodes, e, plain.nodes())
	}
	for _, key := range keys {
		way, val := plain.way(key)
		if want := valueOf(l, key); val != want {
			t.Errorf("the plain way of %s leads to %s, not to %s", short(key), short(val), short(want))
		}
		if got, e := trie.Prove(l, key); !slices.Equal(got, way) || e != api.OK {
			t.Errorf("Prove of %s, of %s, is %x, error %d, not %x", short(key), told(l), got, e, way)
		}
	}
}

func valueOf(l []api.Pair, key string) string {
	for _, p := range l {
		if p.Key == key {
			return p.Val
		}
	}
	return ""
}

// checkWrong sees that pairs are refused by all calls.
func checkWrong(t *testing.T, name string, l []api.Pair) {
	t.Helper()
	if trie.Right(l) {
		t.Errorf("%s: Right is true", name)
	}
	if root, e := trie.Root(l); root != "" || e != api.ErrTrie {
		t.Errorf("%s: Root is %s, error %d", name, short(root), e)
	}
	if nodes, e := trie.Nodes(l); len(nodes) > 0 || e != api.ErrTrie {
		t.Errorf("%s: Nodes are %x, error %d", name, nodes, e)
	}
	for _, key := range []string{"", "a", made(70)} {
		if way, e := trie.Prove(l, key); len(way) > 0 || e != api.ErrTrie {
			t.Errorf("%s: Prove is %x, error %d", name, way, e)
		}
	}
}

// made is a text of that many bytes, unlike from place to place.
func made(size int) string {
	s := make([]byte, size)
	for i := range s {
		s[i] = byte(i*i*7 + i*31 + i/251 + size*13)
	}
	return string(s)
}

func short(s string) string { return fmt.Sprintf("%d bytes %.40x", len(s), s) }

func told(l []api.Pair) string {
	var keys []string
	for _, p := range l[:min(len(l), 6)] {
		keys = append(keys, fmt.Sprintf("%.20x=%.20x", p.Key, p.Val))
	}
	return fmt.Sprintf("%d pairs (%s)", len(l), strings.Join(keys, " "))
}
