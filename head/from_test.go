package head_test

import (
	"fmt"
	"iter"
	"slices"
	"strings"
	"testing"

	"pharos/api"
	"pharos/head"
)

// variant is a tree changed at one place, and whether it stands for such a message still.
type variant struct {
	name  string
	x     tree
	right bool
}

// variants goes through a tree's: changed as a whole, changed within.
func variants(x tree) iter.Seq[variant] {
	return func(yield func(variant) bool) {
		for _, v := range wholly(x) {
			if !yield(v) {
				return
			}
		}
		for i, inner := range x.inner {
			for v := range variants(inner) {
				other := x
				other.inner = slices.Clone(x.inner)
				other.inner[i] = v.x
				if !yield(variant{fmt.Sprint(i, " ", v.name), other, v.right}) {
					return
				}
			}
		}
	}
}

func wholly(x tree) []variant {
	l := []variant{
		{"within a list", listTree(x), false},
		{"within lists too deep", nested(x, 13), false},
	}
	switch x.kind {
	case aList, aRow:
		return append(l, listVariants(x)...)
	case aNumber:
		return append(l, numberVariants()...)
	}
	l = append(l, variant{"a list for a text", listTree(), false})
	for _, s := range edgeTexts() {
		l = append(l, variant{"another text", textTree(s), true})
	}
	return l
}

func listVariants(x tree) []variant {
	isRow := x.kind == aRow
	l := []variant{
		{"no text", textTree(""), false},
		{"a text", textTree("a"), false},
		{"its bytes as a text", textTree(x.bytes()), false},
		{"none", tree{kind: x.kind}, isRow},
		{"twice", tree{kind: x.kind, inner: append(slices.Clone(x.inner), x.inner...)}, isRow || len(x.inner) == 0},
	}
	for at := range len(x.inner) + 1 {
		for _, more := range []tree{textTree(""), textTree("a"), textTree(zeros), listTree(), listTree(textTree("a"))} {
			right := isRow && !more.isList()
			l = append(l, variant{fmt.Sprint("one more at ", at), tree{kind: x.kind, inner: slices.Insert(slices.Clone(x.inner), at, more)}, right})
		}
	}
	for at := range x.inner {
		l = append(l, variant{fmt.Sprint("one less at ", at), tree{kind: x.kind, inner: slices.Delete(slices.Clone(x.inner), at, at+1)}, isRow})
	}
	return l
}

func numberVariants() []variant {
	l := []variant{{"a list for a number", listTree(), false}}
	for _, s := range []string{"\x00", "\x00\x00", "\x00\x01", "\x00\xff\xff", zeros[:8], "\x00" + made(7, 1), "\x00" + made(8, 1), "\x01" + zeros[:8], made(9, 1), made(32, 1), zeros} {
		l = append(l, variant{fmt.Sprintf("%x for a number", s), textTree(s), false})
	}
	for _, s := range []string{"", "\x01", "\x7f", "\x80", "\x01\x00", made(7, 1), made(8, 1), "\x80" + zeros[:7], strings.Repeat("\xff", 8)} {
		l = append(l, variant{fmt.Sprintf("%x for a number", s), textTree(s), true})
	}
	return l
}

// nested is a tree within so many lists.
func nested(x tree, many int) tree {
	for range many {
		x = listTree(x)
	}
	return x
}

// P13.2: an item too few, too many, of another kind, at whatever place, makes no Boot; texts of rows may come and go.
func TestBootVariants(t *testing.T) {
	for _, b := range []api.Boot{{}, {Light: oddLight(), Now: api.Committee{Keys: []string{"k1", "k"}, Sum: "sum"}, Branch: []string{"x", "yz"}}, {Light: madeLight(), Now: madeCommittee(), Branch: madeTexts(3, 32)}} {
		for v := range variants(bootTree(b)) {
			s := v.x.bytes()
			if !v.right {
				expectNoBoot(t, v.name, s)
				continue
			}
			if again, e := head.BootFrom(s); e != api.OK {
				t.Errorf("%s: BootFrom of %s: error %d", v.name, short(s), e)
			} else {
				expectBootBytes(t, again, s)
			}
		}
	}
}

// P13.2: likewise of updates.
func TestUpdateVariants(t *testing.T) {
	for _, u := range []api.Update{{}, {Seen: oddLight(), Next: api.Committee{Keys: []string{"k1", "k"}, Sum: "sum"}, NextBranch: []string{"x"}, Final: anotherLight(), FinalBranch: []string{"", "y"}, Bits: 0xfffe, Sig: "sig", Slot: greatest}, {Seen: madeLight(), Next: madeCommittee(), NextBranch: madeTexts(3, 32), Bits: 1, Sig: made(5, 1), Slot: 300}} {
		for v := range variants(updateTree(u)) {
			s := v.x.bytes()
			if !v.right {
				expectNoUpdate(t, v.name, s)
				continue
			}
			if again, e := head.From(s); e != api.OK {
				t.Errorf("%s: From of %s: error %d", v.name, short(s), e)
			} else {
				expectBytes(t, again, s)
			}
		}
	}
}

// P13.2: texts that are no message, the chapter's and the shortest ones among them.
func TestNoMessage(t *testing.T) {
	texts := []string{"", "\xc0", "\x80", "x", "\xc1\x80", "\xc1\xc0", "\xc3\xc0\xc0\xc0", "\xc8\xc0\xc0\xc0\xc0\xc0\xc0\xc0\xc0", "\xf8", "\xff", zeros, made(300, 1)}
	for _, depth := range []int{11, 12, 13, 14, 100, 5000} {
		texts = append(texts, nested(listTree(), depth).bytes())
	}
	texts = append(texts, strings.Repeat("\xc0", 65536), strings.Repeat("\x80", 65537), strings.Repeat("\xff", 65536))
	for first := range 256 {
		texts = append(texts, string([]byte{byte(first)}), string([]byte{byte(first), 0x80}))
	}
	for _, s := range texts {
		expectNoBoot(t, "none", s)
		expectNoUpdate(t, "none", s)
	}
}

// P13.2: a Boot's bytes are no update's, nor an update's a Boot's.
func TestTheOtherMessage(t *testing.T) {
	for _, b := range boots() {
		expectNoUpdate(t, "a Boot's", bootTree(b).bytes())
	}
	for _, u := range updates() {
		expectNoBoot(t, "an update's", updateTree(u).bytes())
	}
}

// P13.2: a message cut off at whatever place is none, nor is one with a byte behind it, or ahead.
func TestCutOff(t *testing.T) {
	cuts := func(s string) iter.Seq[string] {
		return func(yield func(string) bool) {
			for at := range len(s) {
				if !yield(s[:at]) || at > 0 && !yield(s[at:]) {
					return
				}
			}
			for next := range 256 {
				if !yield(s+string([]byte{byte(next)})) || !yield(string([]byte{byte(next)})+s) {
					return
				}
			}
			yield(s + s)
		}
	}
	for _, b := range boots() {
		for s := range cuts(bootTree(b).bytes()) {
			expectNoBoot(t, "cut", s)
		}
	}
	for _, u := range updates() {
		for s := range cuts(updateTree(u).bytes()) {
			expectNoUpdate(t, "cut", s)
		}
	}
}

// P13.2: each item has one form: others of the same items are no message's.
func TestOtherForms(t *testing.T) {
	empty := bootTree(api.Boot{}).bytes()
	for name, s := range map[string]string{
		"a long head of a short list":         "\xf8\x10" + empty[1:],
		"a longer one":                        "\xf9\x00\x10" + empty[1:],
		"a number with a head that it lacks":  strings.Replace("\xd1"+empty[1:], "\xcb\xc5\x80", "\xcc\xc6\x81\x01", 1),
		"a number that is a byte 0":           strings.Replace(empty, "\xc5\x80", "\xc5\x00", 1),
		"a long head of no text":              strings.Replace("\xd1"+empty[1:], "\xcb\xc5\x80", "\xcc\xc6\xb8\x00", 1),
		"a list that ends within its last":    "\xcf" + empty[1:],
		"a list that ends behind its last":    "\xd1" + empty[1:],
		"an inner one that ends behind":       strings.Replace(empty, "\xcb\xc5", "\xcb\xc6", 1),
		"an inner one that ends ahead":        strings.Replace(empty, "\xcb\xc5", "\xcb\xc4", 1),
		"a Light that has its committee":      strings.Replace(empty, "\xd0\xcb", "\xd0\xce", 1),
		"items without the list around them":  empty[1:],
		"a list with a head of another list":  "\xc1" + empty,
		"the text whose body are the bytes":   "\x91" + empty,
		"the list whose item are the bytes":   "\xd1" + empty,
		"a text of as many bytes as the list": "\x90" + empty[1:],
	} {
		if s == empty {
			t.Errorf("%s: the one form", name)
		}
		expectNoBoot(t, name, s)
	}
}

// near goes through texts near to one: one byte changed, left out, put in.
func near(s string) iter.Seq[string] {
	others := []byte{0, 1, 0x7f, 0x80, 0x81, 0x88, 0x89, 0xb7, 0xb8, 0xbf, 0xc0, 0xc1, 0xf7, 0xf8, 0xff}
	return func(yield func(string) bool) {
		for at := range len(s) {
			if !yield(s[:at] + s[at+1:]) {
				return
			}
			for _, other := range append(others, s[at]+1, s[at]-1) {
				put := string([]byte{other})
				if !yield(s[:at]+put+s[at+1:]) || !yield(s[:at]+put+s[at:]) {
					return
				}
			}
		}
	}
}

// P13.2, P13.3: texts near to a message are none, or another message that is written so.
func TestNear(t *testing.T) {
	read := 0
	for _, u := range updates() {
		whole := updateTree(u).bytes()
		if len(whole) > 1000 {
			continue
		}
		for s := range near(whole) {
			again, e := head.From(s)
			if e != api.OK {
				expectNoUpdate(t, "near", s)
				continue
			}
			read++
			if s != whole && sameUpdate(again, u) {
				t.Errorf("%s is read as %s is", short(s), short(whole))
			}
			expectBytes(t, again, s)
			if s != updateTree(again).bytes() {
				t.Errorf("%s has the bytes of %s", short(s), short(updateTree(again).bytes()))
			}
		}
	}
	for _, b := range boots() {
		whole := bootTree(b).bytes()
		if len(whole) > 1000 {
			continue
		}
		for s := range near(whole) {
			again, e := head.BootFrom(s)
			if e != api.OK {
				expectNoBoot(t, "near", s)
				continue
			}
			read++
			if s != whole && sameBoot(again, b) {
				t.Errorf("%s is read as %s is", short(s), short(whole))
			}
			expectBootBytes(t, again, s)
		}
	}
	if read < 1000 {
		t.Errorf("only %d texts near to messages are some", read)
	}
}
