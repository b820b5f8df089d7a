package head_test

import (
	"crypto/sha256"
	"encoding/binary"
	"fmt"
	"math/big"
	"slices"
	"strings"
	"testing"

	"pharos/api"
	"pharos/head"
)

const greatest = 1<<64 - 1

// zeros are 32 bytes 0.
var zeros = strings.Repeat("\x00", 32)

// edgeNumbers are those at which numbers' bytes change, and the ends.
func edgeNumbers() []uint64 {
	return []uint64{0, 1, 127, 128, 255, 256, 1<<56 - 1, 1 << 56, 1 << 63, greatest}
}

// plainSum is the sum of two texts, by the library's own.
func plainSum(first, second string) string {
	sum := sha256.Sum256([]byte(first + second))
	return string(sum[:])
}

// plainRoot is the root of a tree whose leaves are these, two by two; what stands behind them are zeros.
func plainRoot(depth int, leaves ...string) string {
	row := append(slices.Clone(leaves), slices.Repeat([]string{zeros}, 1<<depth-len(leaves))...)
	for len(row) > 1 {
		var above []string
		for pair := range slices.Chunk(row, 2) {
			above = append(above, plainSum(pair[0], pair[1]))
		}
		row = above
	}
	return row[0]
}

// plainNumber is a number's chunk.
func plainNumber(n uint64) string {
	return string(binary.LittleEndian.AppendUint64(nil, n)) + zeros[8:]
}

func plainHeaderRoot(h api.Header) string {
	return plainRoot(3, plainNumber(h.Slot), plainNumber(h.Proposer), h.Parent, h.State, h.Body)
}

func plainExecRoot(x api.Exec) string {
	return plainRoot(2, x.Accounts, x.Receipts, plainNumber(x.Number))
}

func plainCommitteeRoot(c api.Committee) string {
	var leaves []string
	for _, key := range c.Keys {
		leaves = append(leaves, key+zeros[5:])
	}
	return plainSum(plainRoot(4, leaves...), c.Sum+zeros[5:])
}

// made is a text of so many bytes, none of them 0; of another seed it is another one.
func made(size, seed int) string {
	b := make([]byte, size)
	for i := range b {
		b[i] = byte(1 + (i*7+i/32*11+i/8000*3+seed*29)%255)
	}
	return string(b)
}

// madeTexts are so many texts of that size, no two of the first 255 alike, if they have a byte.
func madeTexts(count, size int) []string {
	var l []string
	for i := range count {
		l = append(l, made(size, i))
	}
	return l
}

func madeHeader() api.Header {
	return api.Header{Slot: 9, Proposer: 3, Parent: made(32, 1), State: made(32, 2), Body: made(32, 3)}
}

func madeExec() api.Exec {
	return api.Exec{Accounts: made(32, 4), Receipts: made(32, 5), Number: 7}
}

func madeCommittee() api.Committee {
	return api.Committee{Keys: madeTexts(16, 5), Sum: made(5, 99)}
}

// madeLight is a Light that holds, whose leaf 3 is not zeros.
func madeLight() api.Light {
	l := api.Light{Beacon: madeHeader(), Exec: madeExec()}
	first, second, last := made(32, 6), made(32, 7), made(32, 8)
	l.Branch = []string{last, plainSum(first, second)}
	l.Beacon.Body = plainRoot(2, first, second, plainExecRoot(l.Exec), last)
	return l
}

// changed is s with bits of one byte turned.
func changed(s string, at int, bits byte) string {
	b := []byte(s)
	b[at] ^= bits
	return string(b)
}

// with is l with another text at one place.
func with(l []string, at int, s string) []string {
	other := slices.Clone(l)
	other[at] = s
	return other
}

// short tells a text, cut, if it is long.
func short(s string) string {
	if len(s) > 80 {
		return fmt.Sprintf("%x.. (%d bytes)", s[:80], len(s))
	}
	return fmt.Sprintf("%x", s)
}

// kind is what a tree stands for in a message.
type kind int

const (
	aText   kind = iota
	aNumber      // a text, too
	aList        // of just so many trees
	aRow         // a list of texts, however many
)

// tree is an item, by the test's own reckoning.
type tree struct {
	kind  kind
	text  string
	inner []tree
}

func (x tree) isList() bool { return x.kind == aList || x.kind == aRow }

func textTree(s string) tree { return tree{kind: aText, text: s} }

func numberTree(n uint64) tree {
	return tree{kind: aNumber, text: string(new(big.Int).SetUint64(n).Bytes())}
}

func listTree(inner ...tree) tree { return tree{kind: aList, inner: inner} }

func rowTree(l []string) tree {
	row := tree{kind: aRow}
	for _, s := range l {
		row.inner = append(row.inner, textTree(s))
	}
	return row
}

func headerTree(h api.Header) tree {
	return listTree(numberTree(h.Slot), numberTree(h.Proposer), textTree(h.Parent), textTree(h.State), textTree(h.Body))
}

func execTree(x api.Exec) tree {
	return listTree(textTree(x.Accounts), textTree(x.Receipts), numberTree(x.Number))
}

func lightTree(l api.Light) tree {
	return listTree(headerTree(l.Beacon), execTree(l.Exec), rowTree(l.Branch))
}

func committeeTree(c api.Committee) tree { return listTree(rowTree(c.Keys), textTree(c.Sum)) }

func bootTree(b api.Boot) tree {
	return listTree(lightTree(b.Light), committeeTree(b.Now), rowTree(b.Branch))
}

func updateTree(u api.Update) tree {
	return listTree(lightTree(u.Seen), committeeTree(u.Next), rowTree(u.NextBranch), lightTree(u.Final),
		rowTree(u.FinalBranch), numberTree(u.Bits), textTree(u.Sig), numberTree(u.Slot))
}

// bytes are those of a tree (RLP).
func (x tree) bytes() string {
	if !x.isList() {
		if len(x.text) == 1 && x.text[0] < 0x80 {
			return x.text
		}
		return plainHead(0x80, len(x.text)) + x.text
	}
	var all strings.Builder
	for _, inner := range x.inner {
		all.WriteString(inner.bytes())
	}
	return plainHead(0xc0, all.Len()) + all.String()
}

func plainHead(base, size int) string {
	if size < 56 {
		return string([]byte{byte(base + size)})
	}
	digits := big.NewInt(int64(size)).Bytes()
	return string([]byte{byte(base + 55 + len(digits))}) + string(digits)
}

func sameLight(a, b api.Light) bool {
	return a.Beacon == b.Beacon && a.Exec == b.Exec && slices.Equal(a.Branch, b.Branch)
}

func sameCommittee(a, b api.Committee) bool { return slices.Equal(a.Keys, b.Keys) && a.Sum == b.Sum }

func sameBoot(a, b api.Boot) bool {
	return sameLight(a.Light, b.Light) && sameCommittee(a.Now, b.Now) && slices.Equal(a.Branch, b.Branch)
}

func sameUpdate(a, b api.Update) bool {
	return sameLight(a.Seen, b.Seen) && sameLight(a.Final, b.Final) && sameCommittee(a.Next, b.Next) &&
		slices.Equal(a.NextBranch, b.NextBranch) && slices.Equal(a.FinalBranch, b.FinalBranch) &&
		a.Bits == b.Bits && a.Sig == b.Sig && a.Slot == b.Slot
}

// boots are Boots of all kinds, no two alike; the first ones have nothing.
func boots() []api.Boot {
	l := []api.Boot{
		{},
		{Light: api.Light{Branch: []string{""}}},
		{Now: api.Committee{Keys: []string{""}}},
		{Now: api.Committee{Sum: "\x00"}},
		{Branch: []string{""}},
		{Branch: []string{"", ""}},
		{Light: madeLight(), Now: madeCommittee(), Branch: madeTexts(3, 32)},
		{Light: oddLight(), Now: api.Committee{Keys: []string{"k1", "k"}, Sum: "sum"}, Branch: []string{"x", "yz"}},
		{Light: madeLight(), Now: api.Committee{Keys: edgeTexts(), Sum: made(1000, 1)}, Branch: edgeTexts()},
	}
	for _, n := range edgeNumbers()[1:] {
		b := api.Boot{Light: madeLight()}
		b.Light.Beacon.Slot, b.Light.Exec.Number = n, greatest-n
		l = append(l, b)
	}
	return l
}

// updates are updates of all kinds, no two alike; the first ones have nothing.
func updates() []api.Update {
	l := []api.Update{
		{},
		{Seen: api.Light{Branch: []string{""}}},
		{Next: api.Committee{Keys: []string{""}}},
		{NextBranch: []string{""}},
		{Final: api.Light{Branch: []string{""}}},
		{FinalBranch: []string{""}},
		{Sig: "\x00"},
		{Seen: madeLight(), Bits: 3, Sig: made(5, 1), Slot: 10},
		{Seen: madeLight(), Next: madeCommittee(), NextBranch: madeTexts(3, 32), Final: madeLight(), FinalBranch: madeTexts(3, 32), Bits: 0xffff, Sig: made(5, 1), Slot: 10},
		{Seen: oddLight(), Next: api.Committee{Keys: []string{"k1", "k"}, Sum: "sum"}, NextBranch: []string{"x"}, Final: anotherLight(), FinalBranch: []string{"", "y"}, Bits: 0xfffe, Sig: "sig", Slot: greatest},
		{Seen: madeLight(), Next: api.Committee{Keys: edgeTexts(), Sum: made(56, 1)}, NextBranch: edgeTexts(), FinalBranch: edgeTexts(), Sig: made(2000, 1)},
	}
	for _, n := range edgeNumbers()[1:] {
		l = append(l, api.Update{Bits: n}, api.Update{Slot: n}, api.Update{Seen: api.Light{Exec: api.Exec{Number: n}}}, api.Update{Final: api.Light{Beacon: api.Header{Proposer: n}}})
	}
	return l
}

// oddLight is one that is not right, of short texts.
func oddLight() api.Light {
	return api.Light{
		Beacon: api.Header{Slot: 1, Proposer: 128, Parent: "P", State: "st", Body: "\x80"},
		Exec:   api.Exec{Accounts: "acc", Number: 256},
		Branch: []string{"b1", ""},
	}
}

func anotherLight() api.Light {
	return api.Light{
		Beacon: api.Header{Slot: 127, Proposer: 255, Body: "body"},
		Exec:   api.Exec{Accounts: "\x00", Receipts: "\x7f", Number: 1 << 63},
		Branch: []string{""},
	}
}

// edgeTexts are those at which texts' bytes change.
func edgeTexts() []string {
	l := []string{"", "\x00", "\x7f", "\x80", "\xff", "\x00\x00", "\xc0", "\xc1\x80"}
	for _, size := range []int{55, 56, 255, 256, 300} {
		l = append(l, made(size, 1))
	}
	return l
}

func expectBootBytes(t *testing.T, b api.Boot, want string) {
	t.Helper()
	if got, e := head.BootBytes(b); got != want || e != api.OK {
		t.Errorf("BootBytes is %s, error %d, not %s", short(got), e, short(want))
	}
}

func expectBytes(t *testing.T, u api.Update, want string) {
	t.Helper()
	if got, e := head.Bytes(u); got != want || e != api.OK {
		t.Errorf("Bytes is %s, error %d, not %s", short(got), e, short(want))
	}
}

func expectBoot(t *testing.T, s string, want api.Boot) {
	t.Helper()
	if got, e := head.BootFrom(s); !sameBoot(got, want) || e != api.OK {
		t.Errorf("BootFrom of %s is that of %s, error %d, not %s", short(s), short(bootTree(got).bytes()), e, short(bootTree(want).bytes()))
	}
}

func expectUpdate(t *testing.T, s string, want api.Update) {
	t.Helper()
	if got, e := head.From(s); !sameUpdate(got, want) || e != api.OK {
		t.Errorf("From of %s is that of %s, error %d, not %s", short(s), short(updateTree(got).bytes()), e, short(updateTree(want).bytes()))
	}
}

func expectNoBoot(t *testing.T, name, s string) {
	t.Helper()
	if got, e := head.BootFrom(s); !sameBoot(got, api.Boot{}) || e != api.ErrHead {
		t.Errorf("%s: BootFrom of %s is that of %s, error %d", name, short(s), short(bootTree(got).bytes()), e)
	}
}

func expectNoUpdate(t *testing.T, name, s string) {
	t.Helper()
	if got, e := head.From(s); !sameUpdate(got, api.Update{}) || e != api.ErrHead {
		t.Errorf("%s: From of %s is that of %s, error %d", name, short(s), short(updateTree(got).bytes()), e)
	}
}
