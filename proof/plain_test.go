package proof_test

import (
	"encoding/binary"
	"encoding/hex"
	"fmt"
	"regexp"
	"slices"
	"strings"
	"testing"

	"pharos/api"
	"pharos/keccak"
	"pharos/proof"
)

// The tests have a plain reading of the chapter of their own: bytes are read loosely and must be what is written of that again, paths are texts of digits, and a path is checked by a call for each node.

// plainItem is a text, or a list.
type plainItem struct {
	isList bool
	text   string
	items  []plainItem
}

// readLoosely is the item that s begins with, and what stands behind it. Heads that are not as short as they can be are read, too.
func readLoosely(s string) (x plainItem, behind string, ok bool) {
	if s == "" {
		return plainItem{}, "", false
	}
	first, rest := int(s[0]), s[1:]
	if first < 0x80 {
		return plainItem{text: s[:1]}, rest, true
	}
	x.isList = first >= 0xc0
	size := (first - 0x80) % 0x40
	if size > 55 {
		digits := size - 55
		if digits > len(rest) {
			return plainItem{}, "", false
		}
		var number [8]byte
		copy(number[8-digits:], rest)
		rest = rest[digits:]
		size = int(min(binary.BigEndian.Uint64(number[:]), 1<<40))
	}
	if size > len(rest) {
		return plainItem{}, "", false
	}
	body, behind := rest[:size], rest[size:]
	if !x.isList {
		x.text = body
		return x, behind, true
	}
	for body != "" {
		var inner plainItem
		if inner, body, ok = readLoosely(body); !ok {
			return plainItem{}, "", false
		}
		x.items = append(x.items, inner)
	}
	return x, behind, true
}

func (x plainItem) bytes() string {
	if !x.isList {
		return text(x.text)
	}
	var items []string
	for _, inner := range x.items {
		items = append(items, inner.bytes())
	}
	return list(items...)
}

func (x plainItem) depth() int {
	deepest := 0
	for _, inner := range x.items {
		deepest = max(deepest, inner.depth())
	}
	return deepest + 1
}

var forms = regexp.MustCompile("^(00|1|20|3)([0-9a-f]*)$")

// path is the digits of a form, and whether it is a leaf's.
func (x plainItem) path() (digits string, leaf, ok bool) {
	found := forms.FindStringSubmatch(hex.EncodeToString([]byte(x.text)))
	if x.isList || found == nil {
		return "", false, false
	}
	return found[2], found[1] == "20" || found[1] == "3", true
}

func (x plainItem) isReference() bool {
	return x.isList && x.isNode() || !x.isList && len(x.text) == 32
}

func (x plainItem) isNode() bool {
	switch {
	case x.isList && len(x.items) == 2:
		digits, leaf, ok := x.items[0].path()
		if leaf {
			return !x.items[1].isList && x.items[1].text != ""
		}
		return ok && digits != "" && x.items[1].isReference()
	case x.isList && len(x.items) == 17:
		for _, below := range x.items[:16] {
			if !below.isReference() && (below.isList || below.text != "") {
				return false
			}
		}
		return !x.items[16].isList
	}
	return false
}

// plainNode is the node whose bytes s are.
func plainNode(s string) (plainItem, bool) {
	x, behind, ok := readLoosely(s)
	return x, ok && behind == "" && x.bytes() == s && x.depth() <= 12 && x.isNode()
}

// under checks a path of digits under a reference: what stands there; what can't be proven is not ok. Node texts are fetched by their digests.
func (x plainItem) under(digits string, fetch func(digest string) (string, bool)) (val string, ok bool) {
	if !x.isList {
		bytes, ok := fetch(x.text)
		if !ok {
			return "", false
		}
		if x, ok = plainNode(bytes); !ok {
			return "", false
		}
	}
	if len(x.items) == 17 {
		if digits == "" {
			return x.items[16].text, true
		}
		below := x.items[strings.Index("0123456789abcdef", digits[:1])]
		if !below.isList && below.text == "" {
			return "", true
		}
		return below.under(digits[1:], fetch)
	}
	path, leaf, _ := x.items[0].path()
	switch {
	case leaf && path == digits:
		return x.items[1].text, true
	case leaf || !strings.HasPrefix(digits, path):
		return "", true
	}
	return x.items[1].under(digits[len(path):], fetch)
}

// answer is what Check answers.
type answer struct {
	val   string
	there bool
	e     api.Errno
}

var (
	nothing  = answer{}
	noProof  = answer{e: api.ErrProof}
	wrongArg = answer{e: api.ErrArg}
)

func value(val string) answer { return answer{val, true, api.OK} }

func plainRight(root string, texts []string) bool {
	return len(root) == 32 && len(texts) <= 140 && !slices.ContainsFunc(texts, func(s string) bool { return len(s) > 65536 })
}

func plainCheck(root, key string, texts []string) answer {
	switch {
	case len(key) < 1 || len(key) > 64 || !plainRight(root, texts):
		return wrongArg
	case len(texts) == 0 && root == keccak.Sum("\x80"):
		return nothing
	}
	asked := 0
	val, ok := plainItem{text: root}.under(hex.EncodeToString([]byte(key)), func(digest string) (string, bool) {
		if asked == len(texts) || keccak.Sum(texts[asked]) != digest {
			return "", false
		}
		asked++
		return texts[asked-1], true
	})
	if !ok || asked < len(texts) {
		return noProof
	}
	return answer{val, val != "", api.OK}
}

// references are the digests that a node refers to, those of nodes within it, too.
func (x plainItem) references() []string {
	if !x.isList {
		return []string{x.text}
	}
	below := x.items[:len(x.items)-1]
	if len(x.items) == 2 {
		below = x.items[1:]
		if _, leaf, _ := x.items[0].path(); leaf {
			return nil
		}
	}
	var found []string
	for _, x := range below {
		found = append(found, x.references()...)
	}
	return found
}

func plainLead(root string, texts []string) ([]string, api.Errno) {
	if !plainRight(root, texts) {
		return nil, api.ErrArg
	}
	told := 0
	for wanted := []string{root}; told < len(texts) && slices.Contains(wanted, keccak.Sum(texts[told])); told++ {
		wanted = nil
		if x, ok := plainNode(texts[told]); ok {
			wanted = x.references()
		}
	}
	return texts[:told], api.OK
}

// Bytes of items and of nodes, written out. References are bytes, too: those of a node, or of a digest.

func text(s string) string {
	if len(s) == 1 && s[0] <= 0x7f {
		return s
	}
	return head(0x80, len(s)) + s
}

func list(items ...string) string {
	body := strings.Join(items, "")
	return head(0xc0, len(body)) + body
}

func head(base byte, size int) string {
	if size <= 55 {
		return string([]byte{base + byte(size)})
	}
	number := strings.TrimLeft(string(binary.BigEndian.AppendUint64(nil, uint64(size))), "\x00")
	return string([]byte{base + 55 + byte(len(number))}) + number
}

// form is that of a path of digits: mark is 2 for a leaf's.
func form(digits string, mark int) string {
	if len(digits)%2 == 0 {
		return unhex(fmt.Sprintf("%x0", mark) + digits)
	}
	return unhex(fmt.Sprintf("%x", mark+1) + digits)
}

func unhex(digits string) string {
	bytes, err := hex.DecodeString(digits)
	if err != nil {
		panic(err)
	}
	return string(bytes)
}

func leaf(digits, val string) string { return list(text(form(digits, 2)), text(val)) }

func bridge(digits, to string) string { return list(text(form(digits, 0)), to) }

func digest(node string) string { return text(keccak.Sum(node)) }

// below is what a list of 17 refers to, by half bytes.
type below map[int]string

func fork(val string, to below) string {
	items := slices.Repeat([]string{"\x80"}, 16)
	for half, reference := range to {
		items[half] = reference
	}
	return list(append(items, text(val))...)
}

// expect holds what Check answers against what it should, and the plain reading, too; and Lead's answer against that of the plain reading.
func expect(t *testing.T, name, root, key string, texts []string, want answer) {
	t.Helper()
	if plain := plainCheck(root, key, texts); plain != want {
		t.Errorf("%s, key %s: the plain reading is %v, not %v", name, short(key), plain, want)
	}
	expectPlain(t, name, root, key, texts)
}

// expectPlain holds what Check and Lead answer against the plain reading, and tells Check's.
func expectPlain(t *testing.T, name, root, key string, texts []string) answer {
	t.Helper()
	want := plainCheck(root, key, texts)
	val, there, e := proof.Check(root, key, texts)
	if got := (answer{val, there, e}); got != want {
		t.Errorf("%s: Check of root %s, key %s, %s is %v, not %v", name, short(root), short(key), told(texts), got, want)
	}
	expectLead(t, name, root, texts)
	return want
}

func expectLead(t *testing.T, name, root string, texts []string) {
	t.Helper()
	want, wantE := plainLead(root, texts)
	got, e := proof.Lead(root, texts)
	if !slices.Equal(got, want) || e != wantE {
		t.Errorf("%s: Lead of root %s, %s is %s, error %d, not %s, error %d", name, short(root), told(texts), told(got), e, told(want), wantE)
	}
}

func (a answer) String() string {
	return fmt.Sprintf("(%s, %v, error %d)", short(a.val), a.there, a.e)
}

// made is a text of that many bytes, unlike from place to place.
func made(size int) string {
	s := make([]byte, size)
	for i := range s {
		s[i] = byte(i*i*7 + i*31 + i/251 + size*13)
	}
	return string(s)
}

func short(s string) string { return fmt.Sprintf("%d bytes %.40x", len(s), s) }

func told(texts []string) string {
	var l []string
	for _, s := range texts[:min(len(texts), 6)] {
		l = append(l, short(s))
	}
	return fmt.Sprintf("%d texts (%s)", len(texts), strings.Join(l, "; "))
}
