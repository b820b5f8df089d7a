package mint

import (
	"pharos/api"
	"pharos/ssz"
)

const rootSize = 32 // bytes of a root, and of all chunks

// tree is one of leaves that are chunks, no more than it has room for.
type tree struct {
	depth  int
	leaves []string
}

func treeOf(depth int, leaves ...string) tree { return tree{depth: depth, leaves: leaves} }

func (t tree) root() string {
	root, _ := ssz.Root(t.leaves, t.depth)
	return root
}

func (t tree) branch(leaf int) []string {
	branch, _ := ssz.Branch(t.leaves, t.depth, leaf)
	return branch
}

// zero is the chunk of what is not there.
func zero() string { return ssz.Number(0) }

// orZero is a root as a leaf, zero where there is none.
func orZero(root string, e api.Errno) string {
	if e != api.OK {
		return zero()
	}
	return root
}

// areRoots tells whether texts are as long as roots are.
func areRoots(texts ...string) bool {
	for _, s := range texts {
		if len(s) != rootSize {
			return false
		}
	}
	return true
}
