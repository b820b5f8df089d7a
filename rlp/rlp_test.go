package rlp_test

import (
	"encoding/binary"
	"fmt"
	"slices"
	"strings"
	"testing"

	"pharos/api"
	"pharos/rlp"
)

// The tests have a plain writer of their own, held to the chapter's examples, that knows neither limits nor what is right.

func plainBytes(x api.Item) string {
	if !x.IsList {
		if len(x.Text) == 1 && x.Text[0] <= 0x7f {
			return x.Text
		}
		return plainHead(0x80, len(x.Text)) + x.Text
	}
	var body strings.Builder
	for _, inner := range x.List {
		body.WriteString(plainBytes(inner))
	}
	return plainHead(0xc0, body.Len()) + body.String()
}

func plainHead(base byte, size int) string {
	if size <= 55 {
		return string([]byte{base + byte(size)})
	}
	number := plainNumber(uint64(size))
	return string([]byte{base + 55 + byte(len(number))}) + number
}

func plainNumber(n uint64) string {
	return strings.TrimLeft(string(binary.BigEndian.AppendUint64(nil, n)), "\x00")
}

// made is a text of size bytes, no two beside each other alike.
func made(size int) string {
	text := make([]byte, size)
	for i := range text {
		text[i] = byte(i*167 + i>>8 + 129)
	}
	return string(text)
}

// nest puts x within so many lists more.
func nest(x api.Item, lists int) api.Item {
	for range lists {
		x = api.Item{IsList: true, List: []api.Item{x}}
	}
	return x
}

func text(s string) api.Item           { return api.Item{Text: s} }
func list(items ...api.Item) api.Item  { return api.Item{IsList: true, List: items} }
func isZero(x api.Item) bool           { return !x.IsList && x.Text == "" && len(x.List) == 0 }
func short(s string) string            { return fmt.Sprintf("%d bytes %.40x", len(s), s) }
func plainSame(a, b api.Item) bool     { return shape(a) == shape(b) }
func mixedText(l ...api.Item) api.Item { return api.Item{Text: "a", List: l} }

// shape writes all of an item out, so that two items have one shape if they are alike in all.
func shape(x api.Item) string {
	var out strings.Builder
	fmt.Fprintf(&out, "(%v %d:%s %d:", x.IsList, len(x.Text), x.Text, len(x.List))
	for _, inner := range x.List {
		out.WriteString(shape(inner))
	}
	out.WriteString(")")
	return out.String()
}

// rightItems are items that have bytes: the chapter's and those at the edges.
func rightItems() []api.Item {
	items := []api.Item{
		text(""), text("a"), text("dog"), text("\x00"), text("\x7f"), text("\x80"), text("\xff"),
		text("\x00\x00"), text("\x00a"), text("a\x00"),
		list(), list(list()), list(text("")), list(text("cat"), text("dog")), list(text("dog"), text("cat")),
		list(text("\x00"), text("\x7f"), text("\x80"), text("\xff")),
		list(list(), list(list()), list(list(), list(list()))),
		list(text("a"), list(text("b"), list(), text("")), text("c"), list(text(made(60)))),
		list(text("\x80\xc0\xc1\xb8")),
	}
	for _, size := range sizes() {
		items = append(items, text(made(size)), listOfSize(size), list(list(), listOfSize(size), text("a")))
	}
	for deep := 1; deep <= 12; deep++ {
		items = append(items, nest(list(), deep-1), nest(text("a"), deep-1))
	}
	beside := list(text("dog"), nest(list(), 10), nest(text(made(300)), 10), list(nest(text("x"), 4), nest(list(), 9)))
	return append(items, beside)
}

func sizes() []int {
	return []int{1, 2, 3, 31, 32, 33, 53, 54, 55, 56, 57, 58, 254, 255, 256, 257, 258, 1000, 32767, 32768, 65000}
}

// listOfSize is a list whose items have together so many bytes: one text, if that can be.
func listOfSize(size int) api.Item {
	if size == 0 {
		return list()
	}
	for head := 1; head <= 4; head++ {
		inner := text(made(max(size-head, 0)))
		if len(plainBytes(inner)) == size {
			return list(inner)
		}
	}
	inner := listOfSize(size - 1)
	inner.List = append(inner.List, text("z"))
	return inner
}

// P4.1: what Text and List make.
func TestTextAndList(t *testing.T) {
	for _, s := range []string{"", "a", "dog", "\x00", "\x80", made(56), made(70000)} {
		if got := rlp.Text(s); !plainSame(got, text(s)) {
			t.Errorf("Text of %s is %s", short(s), short(shape(got)))
		}
	}
	lists := [][]api.Item{
		nil,
		{},
		{text("")},
		{list()},
		{text("cat"), text("dog")},
		{text("dog"), text("cat"), text("dog")},
		{list(text("a"), list()), text("b"), list(list(text("c")))},
		{mixedText(text("b"), list()), {IsList: true, Text: "c", List: []api.Item{mixedText()}}},
		{nest(list(), 40)},
	}
	for _, l := range lists {
		if got := rlp.List(l...); !plainSame(got, list(l...)) {
			t.Errorf("List of %s is %s", shape(list(l...)), shape(got))
		}
	}
	if got := rlp.List(); !plainSame(got, list()) {
		t.Errorf("List of none is %s", shape(got))
	}
}

// P4.1: items of all kinds against each other.
func TestSame(t *testing.T) {
	items := []api.Item{
		{}, text("a"), text("b"), text("ab"), list(), list(text("a")), list(text("b")), list(text("a"), text("b")), list(text("b"), text("a")),
		list(list()), list(list(), list()), list(list(list())), list(list(text("a"))), list(list(text("a")), text("a")), list(text("a"), list(text("a"))),
		{List: []api.Item{{}}}, {Text: "a", List: []api.Item{{}}}, {IsList: true, Text: "a"}, {IsList: true, Text: "a", List: []api.Item{{}}},
		list(text("aa")), list(mixedText(text("b"))), list(mixedText(list())), list(api.Item{IsList: true, Text: "b"}),
		nest(list(), 30), nest(text("a"), 30), nest(text(""), 30), nest(list(), 31), nest(mixedText(mixedText()), 30), nest(mixedText(mixedText(text(""))), 30),
	}
	for i, a := range items {
		for j, b := range items {
			if got := rlp.Same(a, b); got != (i == j) || got != plainSame(a, b) {
				t.Errorf("Same of %s and %s is %v", shape(a), shape(b), got)
			}
			if got := rlp.Same(a, rlp.List(b).List[0]); got != (i == j) {
				t.Errorf("Same of %s and of a copy of %s is %v", shape(a), shape(b), got)
			}
		}
	}
}

// P4.1, R3: nil and empty lists are one, whatever their spare room.
func TestSameEmptyLists(t *testing.T) {
	empties := [][]api.Item{nil, {}, make([]api.Item, 0, 3)}
	for _, a := range empties {
		for _, b := range empties {
			for _, isList := range []bool{false, true} {
				x, y := api.Item{IsList: isList, List: a}, api.Item{IsList: isList, List: b}
				if !rlp.Same(x, y) || !rlp.Same(list(x), list(y)) {
					t.Errorf("an empty list and another are not the same (lists: %v)", isList)
				}
			}
		}
		got, e := rlp.Encode(api.Item{Text: "dog", List: a})
		if got != "\x83dog" || e != api.OK {
			t.Errorf("a text with an empty list is %x, error %d", got, e)
		}
	}
}

// P4.1: from the greatest difference in depth to the smallest place: unlike only in what lies deepest, or last.
func TestSameFarIn(t *testing.T) {
	const lists = 1<<16 - 2
	deep := nest(text("a"), lists)
	if !rlp.Same(deep, nest(text("a"), lists)) {
		t.Error("two deep items that are alike are not the same")
	}
	for name, other := range map[string]api.Item{"a text": nest(text("b"), lists), "a kind": nest(api.Item{IsList: true, Text: "a"}, lists), "one list less": nest(text("a"), lists-1)} {
		if rlp.Same(deep, other) {
			t.Errorf("two deep items unlike in %s are the same", name)
		}
	}
	wide := slices.Repeat([]api.Item{text("a")}, 100000)
	other := slices.Clone(wide)
	other[len(other)-1].Text = "b"
	if !rlp.Same(list(wide...), list(wide...)) || rlp.Same(list(wide...), list(other...)) || rlp.Same(list(wide...), list(wide[1:]...)) {
		t.Error("wide lists")
	}
	if got := rlp.List(deep); !rlp.Same(got.List[0], deep) {
		t.Error("a list of a deep item has another")
	}
}
