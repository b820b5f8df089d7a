package rlp_test

import (
	"slices"
	"sync"
	"testing"

	"pharos/api"
	"pharos/rlp"
)

// edgeBytes are those at which heads change, and some beside them.
func edgeBytes() []byte {
	return []byte{0, 1, 0x37, 0x38, 0x7f, 0x80, 0x81, 0xb7, 0xb8, 0xbf, 0xc0, 0xc1, 0xf7, 0xf8, 0xff}
}

// P4.4: of all bytes, one to three (the third one at an edge), those are an item's that the items of so many bytes have, counted by themselves; each item has its own bytes again; and none begin with another one's.
func TestEveryThreeBytes(t *testing.T) {
	const (
		ofOne   = 128 + 2                          // a bare text; the empty text, the empty list
		ofTwo   = 128 + ofOne                      // a text of one byte with a head; a list of one item
		lastOne = 5 + 2                            // of ofOne, those whose last byte is an edge
		lastTwo = 10 + lastOne                     // of ofTwo
		ofThree = 256*15 + ofOne*lastOne + lastTwo // a text of two bytes; a list of two items, or of one
	)
	var count [4]int
	for first := range 256 {
		one := string([]byte{byte(first)})
		isOne := isItem(t, one)
		count[1] += number(isOne)
		for second := range 256 {
			two := one + string([]byte{byte(second)})
			isTwo := isItem(t, two)
			count[2] += number(isTwo)
			isThree := false
			for _, third := range edgeBytes() {
				is := isItem(t, two+string([]byte{third}))
				count[3] += number(is)
				isThree = isThree || is
			}
			if isOne && isTwo || isOne && isThree || isTwo && isThree {
				t.Errorf("%x begins another item's bytes, or is begun by one", two)
			}
		}
	}
	if want := [4]int{0, ofOne, ofTwo, ofThree}; count != want {
		t.Errorf("so many items of no to three bytes: %v, not %v", count, want)
	}
}

func number(is bool) int {
	if is {
		return 1
	}
	return 0
}

// isItem tells whether s are an item's bytes, and sees that they are that item's alone.
func isItem(t *testing.T, s string) bool {
	x, e := rlp.Decode(s)
	if e != api.OK {
		if e != api.ErrRlp && e != api.ErrDeep || !isZero(x) {
			t.Errorf("Decode of %s is %s, error %d", short(s), short(shape(x)), e)
		}
		return false
	}
	if again, e := rlp.Encode(x); again != s || e != api.OK {
		t.Errorf("the item of %s has the bytes %s, error %d", short(s), short(again), e)
	}
	return true
}

// P4.4: unlike items have unlike bytes.
func TestOneToOne(t *testing.T) {
	items := rightItems()
	bytes := map[string]api.Item{}
	for _, x := range items {
		s, e := rlp.Encode(x)
		if other, had := bytes[s]; had && !plainSame(other, x) || e != api.OK {
			t.Errorf("two items have the bytes %s, error %d", short(s), e)
		}
		bytes[s] = x
	}
	for a, x := range bytes {
		for b, y := range bytes {
			if rlp.Same(x, y) != (a == b) {
				t.Errorf("Same of the items of %s and %s is %v", short(a), short(b), a != b)
			}
			if a != b && len(a) <= len(b) && a == b[:len(a)] {
				t.Errorf("%s begin with %s", short(b), short(a))
			}
		}
	}
}

// P4.4: no piece of an item's bytes from their beginning on is an item's, nor are they with more behind them.
func TestNoneBeginsAnother(t *testing.T) {
	for _, x := range rightItems() {
		s, _ := rlp.Encode(x)
		for cut := range len(s) {
			if cut > 400 && cut < len(s)-20 && cut%9973 != 0 {
				continue
			}
			checkNoItem(t, s[:cut])
		}
		for next := range 256 {
			if len(s) < 1000 {
				checkNoItem(t, s+string([]byte{byte(next)}))
			}
		}
		if len(s) <= api.MaxRlp/2 {
			checkNoItem(t, s+s)
		}
	}
}

// P4.2, P4.4: bytes near to an item's (one changed, left out, put in) are none's, or another one's that has them.
func TestNearBytes(t *testing.T) {
	for _, x := range rightItems() {
		s, _ := rlp.Encode(x)
		if len(s) > 400 {
			continue
		}
		for at := range len(s) {
			isItem(t, s[:at]+s[at+1:])
			for _, other := range append(edgeBytes(), s[at]+1, s[at]-1) {
				isItem(t, s[:at]+string([]byte{other})+s[at+1:])
				isItem(t, s[:at]+string([]byte{other})+s[at:])
			}
		}
	}
}

// R3: what is handed in is neither written into, nor its spare room, nor kept.
func TestHandedIn(t *testing.T) {
	spare := text("spare")
	inner := []api.Item{text("a"), list(text("b")), spare}[:2]
	items := []api.Item{text("x"), {IsList: true, List: inner}, mixedText(text("c")), spare}[:3]
	want := shape(list(items...))

	made := rlp.List(items...)
	rlp.Same(made, list(items...))
	rlp.Encode(made)
	rlp.Encode(list(items...))
	if shape(list(items...)) != want || !plainSame(items[:4][3], spare) || !plainSame(inner[:3][2], spare) {
		t.Error("what was handed in was written into")
	}

	items[0].Text = "changed"
	items[1].List[0].Text = "changed"
	inner[1].List[0].Text = "changed"
	items[2].List[0].Text = "changed"
	if shape(made) != want {
		t.Errorf("the list kept what was handed in: %s", shape(made))
	}
	now := shape(list(items...))
	for _, x := range made.List {
		scribble(x)
	}
	_ = append(made.List, text("more"))
	if shape(list(items...)) != now || !plainSame(items[:4][3], spare) || !plainSame(inner[:3][2], spare) {
		t.Error("the list shares what was handed in")
	}
}

// scribble writes into all lists within x, and into their spare room.
func scribble(x api.Item) {
	all := x.List[:cap(x.List)]
	for i := range all {
		if i < len(x.List) {
			scribble(x.List[i])
		}
		all[i] = text("scribbled")
	}
}

// R3: no two lists of an answer share memory, though one item came twice.
func TestListsApart(t *testing.T) {
	twice := list(text("a"), list(text("b")), mixedText(text("c")))
	answers := map[string]func() api.Item{
		"List": func() api.Item { return rlp.List(twice, list(), twice, list(twice)) },
		"Decode": func() api.Item {
			x, _ := rlp.Decode("\xd0\xc3a\xc1b\xc0\xc3a\xc1b\xc4\xc3a\xc1b\xc0")
			return x
		},
	}
	for name, answer := range answers {
		other := answer()
		want := shape(other)
		for i := range other.List {
			x := answer()
			if shape(x) != want {
				t.Fatalf("%s: %s, not %s", name, shape(x), want)
			}
			scribble(x.List[i])
			for j, y := range x.List {
				if j != i && !plainSame(y, other.List[j]) {
					t.Errorf("%s: the items %d and %d share memory", name, i, j)
				}
			}
		}
		if shape(other) != want {
			t.Errorf("%s: two answers share memory", name)
		}
	}
}

// R4: what is answered hangs on the arguments alone; calls side by side don't meet.
func TestSideBySide(t *testing.T) {
	items := rightItems()
	wanted := make([]string, len(items))
	for i, x := range items {
		wanted[i] = plainBytes(x)
	}
	var workers sync.WaitGroup
	for shift := range 4 {
		workers.Go(func() {
			for i := range items {
				at := (i + shift*7) % len(items)
				s, e := rlp.Encode(items[at])
				x, f := rlp.Decode(wanted[at])
				if s != wanted[at] || e != api.OK || f != api.OK || !rlp.Same(x, items[at]) {
					t.Errorf("of %s: %s, errors %d and %d", short(wanted[at]), short(s), e, f)
				}
				rlp.Decode(wanted[at] + "\x00")
			}
		})
	}
	workers.Wait()
}

// R5: a list of very many items is answered, too.
func TestWide(t *testing.T) {
	items := slices.Repeat([]api.Item{list()}, 1<<20)
	if s, e := rlp.Encode(rlp.List(items...)); s != "" || e != api.ErrLong {
		t.Errorf("Encode is %s, error %d", short(s), e)
	}
}
