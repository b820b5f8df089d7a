package trie

import (
	"iter"
	"slices"
	"strings"

	"pharos/api"
	"pharos/nibs"
)

// entry is a pair, its key as a path.
type entry struct {
	path string
	val  string
}

// sorted is pairs by their keys, in new memory, and whether they are right.
func sorted(l []api.Pair) ([]api.Pair, bool) {
	if len(l) > api.MaxPairs || slices.ContainsFunc(l, isWrong) {
		return nil, false
	}
	pairs := slices.SortedFunc(slices.Values(l), func(a, b api.Pair) int {
		return strings.Compare(a.Key, b.Key)
	})
	for i := 1; i < len(pairs); i++ {
		if pairs[i-1].Key == pairs[i].Key {
			return nil, false
		}
	}
	return pairs, true
}

// isWrong tells whether a pair is too great, or has nothing for a key or a value.
func isWrong(p api.Pair) bool {
	return p.Key == "" || len(p.Key) > api.MaxKey || p.Val == "" || len(p.Val) > api.MaxVal
}

// entriesOf is the entries of sorted pairs: keys and their paths have one order.
func entriesOf(pairs []api.Pair) []entry {
	entries := make([]entry, len(pairs))
	for i, p := range pairs {
		entries[i] = entry{path: nibs.Of(p.Key), val: p.Val}
	}
	return entries
}

// parted goes through the half bytes that sorted entries, whose paths are all longer than depth, have there, and tells those that have it.
func parted(entries []entry, depth int) iter.Seq2[byte, []entry] {
	return func(yield func(byte, []entry) bool) {
		for rest := entries; len(rest) > 0; {
			half := rest[0].path[depth]
			size := 1
			for size < len(rest) && rest[size].path[depth] == half {
				size++
			}
			if !yield(half, rest[:size]) {
				return
			}
			rest = rest[size:]
		}
	}
}
