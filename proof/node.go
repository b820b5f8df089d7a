package proof

import (
	"iter"

	"pharos/api"
	"pharos/nibs"
	"pharos/rlp"
)

const (
	halves     = 16 // so many half bytes there are, and references in a list of 17
	digestSize = 32
)

// node is what one says of paths: which value stands at which path (an empty text: none does), and how other ones go on. A leaf has no steps, a bridge no value, and a list of 17 has its value where a path is at its end.
type node struct {
	path  string
	val   string
	steps []step
}

// step is how a path goes on from a node to one below it.
type step struct {
	path string
	to   reference
}

// reference is what stands for a node: its digest, or the node itself.
type reference struct {
	digest string
	within *node
}

// nodeOf is the node whose bytes text is; nil, if there is none.
func nodeOf(text string) *node {
	item, e := rlp.Decode(text)
	if e != api.OK {
		return nil
	}
	return readNode(item)
}

// readNode is the node that an item is; nil, if it is none. All that stand within it are read, too: a list that has anything else where a node may stand is no node.
func readNode(x api.Item) *node {
	switch len(x.List) {
	case 2:
		return readLeafOrBridge(x.List[0], x.List[1])
	case halves + 1:
		return readFork(x.List[:halves], x.List[halves])
	}
	return nil
}

func readLeafOrBridge(form, behind api.Item) *node {
	// A list has no text, and no form and no leaf's value is an empty one: whether they are lists need not be asked.
	path, leaf, e := nibs.Read(form.Text)
	switch {
	case e != api.OK:
		return nil
	case leaf && behind.Text != "":
		return &node{path: path, val: behind.Text}
	case leaf || path == "":
		return nil
	}
	to, is := readReference(behind)
	if !is {
		return nil
	}
	return &node{steps: []step{{path: path, to: to}}}
}

func readFork(below []api.Item, val api.Item) *node {
	if val.IsList {
		return nil
	}
	n := &node{val: val.Text}
	for half, x := range below {
		if !x.IsList && x.Text == "" {
			continue
		}
		to, is := readReference(x)
		if !is {
			return nil
		}
		n.steps = append(n.steps, step{path: string([]byte{byte(half)}), to: to})
	}
	return n
}

func readReference(x api.Item) (reference, bool) {
	if x.IsList {
		n := readNode(x)
		return reference{within: n}, n != nil
	}
	return reference{digest: x.Text}, len(x.Text) == digestSize
}

// digests goes through the digests that a node, or one that stands within it, refers to. Of no node there are none.
func (n *node) digests() iter.Seq[string] {
	return func(yield func(string) bool) {
		if n != nil {
			reference{within: n}.yieldDigests(yield)
		}
	}
}

// yieldDigests hands on a reference's digest, or those of the node that it is, and says whether more is wanted.
func (r reference) yieldDigests(yield func(string) bool) bool {
	if r.within == nil {
		return yield(r.digest)
	}
	for _, s := range r.within.steps {
		if !s.to.yieldDigests(yield) {
			return false
		}
	}
	return true
}
