package proof

import (
	"slices"
	"testing"
)

// Digests may be gone through again, and left early, wherever: within a node that stands within another one, too.
func TestDigests(t *testing.T) {
	inner := &node{steps: []step{{path: "\x01", to: reference{digest: "b"}}, {path: "\x02", to: reference{digest: "c"}}}}
	leaf := &node{path: "\x01", val: "v"}
	top := &node{steps: []step{
		{path: "\x00", to: reference{digest: "a"}},
		{path: "\x01", to: reference{within: inner}},
		{path: "\x02", to: reference{within: leaf}},
		{path: "\x03", to: reference{within: &node{steps: []step{{path: "\x04", to: reference{within: inner}}}}}},
		{path: "\x04", to: reference{digest: "a"}},
	}}
	want := []string{"a", "b", "c", "b", "c", "a"}
	through := top.digests()
	for most := range len(want) + 1 {
		var got []string
		for digest := range through {
			if len(got) == most {
				break
			}
			got = append(got, digest)
		}
		if !slices.Equal(got, want[:most]) {
			t.Errorf("the first %d are %q", most, got)
		}
	}
	var none *node
	for _, n := range []*node{none, leaf, {}} {
		for digest := range n.digests() {
			t.Errorf("a node without references has %q", digest)
		}
	}
}
