package proof_test

import (
	"slices"
	"testing"

	"pharos/api"
	"pharos/keccak"
	"pharos/proof"
)

// expectTold sees that Lead tells so many texts, the first ones, and that the plain reading does.
func expectTold(t *testing.T, root string, texts []string, count int) {
	t.Helper()
	if plain, e := plainLead(root, texts); len(plain) != count || e != api.OK {
		t.Errorf("the plain reading of %s tells %d, error %d, not %d", told(texts), len(plain), e, count)
	}
	if got, e := proof.Lead(root, texts); !slices.Equal(got, texts[:count]) || e != api.OK {
		t.Errorf("Lead of root %s, %s is %s, error %d, not the first %d", short(root), told(texts), told(got), e, count)
	}
}

// P7.2: of no texts none are told, under whichever root.
func TestLeadOfNone(t *testing.T) {
	for _, root := range []string{keccak.Sum("\x80"), rootOf(t, animals()), made(32)} {
		for _, texts := range [][]string{nil, {}, make([]string, 0, 3)} {
			expectTold(t, root, texts, 0)
		}
	}
	for _, root := range []string{"", made(31), made(33)} {
		if got, e := proof.Lead(root, nil); len(got) > 0 || e != api.ErrArg {
			t.Errorf("Lead of %s is %s, error %d", short(root), told(got), e)
		}
	}
}

// P7.2: ways are told whole, whatever the key; what stands behind them is not.
func TestLeadOfWays(t *testing.T) {
	for _, x := range sets() {
		root := rootOf(t, x.pairs)
		for _, key := range some(keysNear(x.pairs), 8) {
			way := wayOf(t, x.pairs, key)
			for count := range len(way) + 1 {
				if count > 3 && count < len(way)-3 {
					continue
				}
				expectTold(t, root, way[:count], count)
				for _, other := range []string{"", "x", "\xc0", leaf("13", "v")} {
					expectTold(t, root, append(slices.Clone(way[:count]), other), count)
					expectTold(t, root, slices.Insert(slices.Clone(way), count, other), count)
				}
				expectTold(t, made(32), way[:count], 0)
				if count > 0 {
					expectTold(t, root, way[1:], 0)
					expectTold(t, root, append(slices.Clone(way[:count]), way[count-1]), count)
					expectTold(t, keccak.Sum(way[count-1]), way[count-1:], len(way)-count+1)
				}
			}
		}
	}
}

// P7.2: a text is told, wherever in the one ahead its digest is referred to.
func TestLeadAnywhere(t *testing.T) {
	next := leaf("34", "next")
	to := digest(next)
	var nodes []string
	for half := range 16 {
		others := below{}
		for other := range 16 {
			others[other] = digest(made(other + 1))
		}
		others[half] = to
		nodes = append(nodes, fork("", below{half: to}), fork("v", others))
	}
	for _, h := range holders(to) {
		nodes = append(nodes, h.node)
	}
	for _, inner := range []string{fork("", below{9: to}), bridge("9", to), bridge("9", fork("v", below{0: leaf("", "v"), 9: to}))} {
		for _, h := range holders(inner) {
			nodes = append(nodes, h.node)
		}
	}
	nodes = append(nodes, bridge("12", to), bridge("1", to), fork("", below{1: to, 2: to, 3: to}))
	for _, node := range nodes {
		expectTold(t, keccak.Sum(node), []string{node, next}, 2)
		expectTold(t, keccak.Sum(node), []string{node, next, next}, 2)
		expectTold(t, keccak.Sum(node), []string{node, node}, 1)
		expectTold(t, keccak.Sum(node), []string{node, "x", next}, 1)
		expectTold(t, keccak.Sum(node), []string{node, next[1:]}, 1)
		expectTold(t, keccak.Sum(next), []string{node, next}, 0)
		expectTold(t, keccak.Sum(next), []string{next, node}, 1)
	}
}

// P7.2: a digest that is no reference leads nowhere: one in a value, in a path, in what is no node, in a text further ahead.
func TestLeadNowhere(t *testing.T) {
	next := leaf("34", "next")
	to, bare := digest(next), keccak.Sum(next)
	for _, node := range []string{
		leaf("12", bare),
		leaf("", bare),
		leaf("12", to),
		fork(bare, nil),
		fork(bare, below{1: leaf("2", bare), 2: digest("another")}),
		bridge("12", leaf("3", bare)),
		bridge("12", fork(bare, nil)),
		list(text("\x00"+bare), digest("another")),
		list(text("\x20"+bare), "v"),
		text(bare),
		bare,
		list(to),
		list(to, to, to),
		list(slices.Repeat([]string{to}, 16)...),
		list(slices.Repeat([]string{to}, 18)...),
		bridge("", to),
		fork("", below{1: to, 2: text(made(31))}),
		fork("", below{1: to, 2: "\xc0"}),
		fork("", below{1: to, 2: leaf("2", "")}),
		fork("", below{1: to}) + "\x00",
		fork("", below{1: list(list(to))}),
		fork("", below{1: text(to)}),
		"",
	} {
		expectTold(t, keccak.Sum(node), []string{node, next}, 1)
		expectTold(t, keccak.Sum(node), []string{node, next, next}, 1)
	}
	middle := bridge("5", digest("another"))
	top := fork("", below{1: digest(middle), 2: to})
	expectTold(t, keccak.Sum(top), []string{top, next}, 2)
	expectTold(t, keccak.Sum(top), []string{top, middle}, 2)
	expectTold(t, keccak.Sum(top), []string{top, middle, next}, 2)
	expectTold(t, keccak.Sum(top), []string{top, next, middle}, 2)
	expectTold(t, keccak.Sum(top), []string{top, middle, "another", next}, 3)
	expectTold(t, keccak.Sum("another"), []string{"another"}, 1)
	expectTold(t, keccak.Sum(""), []string{"", ""}, 1)
	expectTold(t, keccak.Sum("\x80"), []string{"\x80"}, 1)
}

// P7.2: as many texts as there may be, each with many references, all to the next one.
func TestLeadOfGreat(t *testing.T) {
	var texts []string
	to := digest("the end")
	for len(texts) < 140 {
		var items []string
		for range 16 {
			items = append(items, fork("", below{0: fork(made(1700), below{1: to, 2: to}), 15: bridge("7", to)}))
		}
		node := list(append(items, text(made(20000)))...)
		texts = slices.Insert(texts, 0, node)
		to = digest(node)
	}
	root := keccak.Sum(texts[0])
	expectTold(t, root, texts, 140)
	expectTold(t, root, append(slices.Clone(texts[:139]), "the end"), 139)
	expectTold(t, root, append(slices.Clone(texts[1:]), "the end"), 0)
	expectTold(t, keccak.Sum(texts[1]), append(slices.Clone(texts[1:]), "the end"), 140)
}
