package ssz

import (
	"iter"
	"slices"

	"pharos/api"
	"pharos/sha"
)

// level is one of a tree: what stands above given chunks, or these, and what each text behind them is. So the many leaves of zeros cost one sum a level.
type level struct {
	texts  []string
	behind string
}

// haveTree tells whether chunks have a tree of that depth.
func haveTree(chunks []string, depth int) bool {
	if depth < 0 || depth > api.MaxDepth || len(chunks) > min(1<<depth, api.MaxChunks) {
		return false
	}
	return !slices.ContainsFunc(chunks, func(s string) bool { return !isChunk(s) })
}

// levels goes through the levels of a tree, from its leaves at the height 0 to its root at the height depth.
func levels(chunks []string, depth int) iter.Seq2[int, level] {
	return func(yield func(int, level) bool) {
		l := level{texts: chunks, behind: zeroChunk}
		for height := 0; yield(height, l) && height < depth; height++ {
			l = l.above()
		}
	}
}

func (l level) at(i int) string {
	if i < len(l.texts) {
		return l.texts[i]
	}
	return l.behind
}

// above is the next level, towards the root.
func (l level) above() level {
	next := level{
		texts:  make([]string, 0, (len(l.texts)+1)/2),
		behind: sha.Sum(l.behind, l.behind),
	}
	for i := 0; i < len(l.texts); i += 2 {
		next.texts = append(next.texts, sha.Sum(l.at(i), l.at(i+1)))
	}
	return next
}
