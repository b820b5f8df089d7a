package trie

import (
	"strings"

	"pharos/api"
	"pharos/keccak"
	"pharos/nibs"
	"pharos/rlp"
)

const (
	halves     = 16 // so many half bytes there are, and references in a list of 17
	digestSize = 32 // a node of fewer bytes stands itself where a digest of it would
)

// node is one of a trie: its list, the bytes of that, and the steps to those that it refers to, in their order.
type node struct {
	list  api.Item
	bytes string
	steps []step
}

// step is how a path goes on from a node to one below it.
type step struct {
	path string
	to   *node
}

// topOf is the node of all pairs (of none: nil), and whether they are right.
func topOf(l []api.Pair) (*node, bool) {
	pairs, right := sorted(l)
	if !right || len(pairs) == 0 {
		return nil, right
	}
	return nodeOf(entriesOf(pairs), 0), true
}

// nodeOf is the node of sorted entries, at least one, whose paths are alike ahead of depth.
func nodeOf(entries []entry, depth int) *node {
	first, last := entries[0].path[depth:], entries[len(entries)-1].path[depth:]
	if len(entries) == 1 {
		return leafOf(first, entries[0].val)
	}
	// They are sorted: what the first one and the last one have alike, all have.
	if alike := nibs.Common(first, last); alike > 0 {
		return bridgeOf(first[:alike], nodeOf(entries, depth+alike))
	}
	return forkOf(entries, depth)
}

func leafOf(path, val string) *node {
	return newNode([]api.Item{formOf(path, true), rlp.Text(val)}, nil)
}

func bridgeOf(path string, to *node) *node {
	return newNode([]api.Item{formOf(path, false), to.reference()}, []step{{path: path, to: to}})
}

// forkOf is the list of 17 of sorted entries, several, whose paths part at depth.
func forkOf(entries []entry, depth int) *node {
	items := make([]api.Item, halves+1)
	if len(entries[0].path) == depth {
		// The one that ends here is ahead of all that go on.
		items[halves] = rlp.Text(entries[0].val)
		entries = entries[1:]
	}
	var steps []step
	for half, some := range parted(entries, depth) {
		to := nodeOf(some, depth+1)
		items[half] = to.reference()
		steps = append(steps, step{path: string([]byte{half}), to: to})
	}
	return newNode(items, steps)
}

// newNode is the node of that list. A node has bytes, whatever the pairs: right ones are small, and lists stand within each other only as far as 31 bytes let them.
func newNode(items []api.Item, steps []step) *node {
	list := rlp.List(items...)
	bytes, _ := rlp.Encode(list)
	return &node{list: list, bytes: bytes, steps: steps}
}

func formOf(path string, leaf bool) api.Item {
	form, _ := nibs.Form(path, leaf)
	return rlp.Text(form)
}

// reference is what stands for a node in the one ahead of it.
func (n *node) reference() api.Item {
	if n.standsWithin() {
		return n.list
	}
	return rlp.Text(keccak.Sum(n.bytes))
}

// standsWithin tells whether a node's list itself is its reference.
func (n *node) standsWithin() bool {
	return len(n.bytes) < digestSize
}

// handAlong hands on the nodes of a path's way.
func handAlong(top *node, path string, hand func(*node)) {
way:
	for at := top; ; {
		hand(at)
		for _, s := range at.steps {
			if rest, leads := strings.CutPrefix(path, s.path); leads {
				at, path = s.to, rest
				continue way
			}
		}
		break way
	}
}

// handAll hands on a node, and then all below it.
func handAll(n *node, hand func(*node)) {
	hand(n)
	for _, s := range n.steps {
		handAll(s.to, hand)
	}
}
