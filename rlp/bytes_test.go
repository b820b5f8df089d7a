package rlp_test

import (
	"slices"
	"strings"
	"testing"

	"pharos/api"
	"pharos/rlp"
)

// P4.2: the chapter's examples.
func TestExamples(t *testing.T) {
	cases := map[string]api.Item{
		"\x80":                                   text(""),
		"a":                                      text("a"),
		"\x83dog":                                text("dog"),
		"\xc8\x83cat\x83dog":                     list(text("cat"), text("dog")),
		"\xc0":                                   list(),
		"\x00":                                   text("\x00"),
		"\x7f":                                   text("\x7f"),
		"\x81\x80":                               text("\x80"),
		"\x81\xff":                               text("\xff"),
		"\x82\x00\x00":                           text("\x00\x00"),
		"\xc7\xc0\xc1\xc0\xc3\xc0\xc1\xc0":       list(list(), list(list()), list(list(), list(list()))),
		"\xb7" + made(55):                        text(made(55)),
		"\xb8\x38" + made(56):                    text(made(56)),
		"\xb8\xff" + made(255):                   text(made(255)),
		"\xb9\x01\x00" + made(256):               text(made(256)),
		"\xb9\xff\xfd" + made(65533):             text(made(65533)),
		"\xf7\xb6" + made(54):                    list(text(made(54))),
		"\xf8\x38\xb7" + made(55):                list(text(made(55))),
		"\xf8\xff\xb8\xfd" + made(253):           list(text(made(253))),
		"\xf9\x01\x00\xb8\xfe" + made(254):       list(text(made(254))),
		"\xf9\xff\xfd\xb9\xff\xfa" + made(65530): list(text(made(65530))),
	}
	for s, x := range cases {
		if plain := plainBytes(x); plain != s {
			t.Errorf("the plain bytes are %s, not %s", short(plain), short(s))
		}
		if got, e := rlp.Encode(x); got != s || e != api.OK {
			t.Errorf("Encode is %s, error %d, not %s", short(got), e, short(s))
		}
		if got, e := rlp.Decode(s); !plainSame(got, x) || e != api.OK {
			t.Errorf("Decode of %s is %s, error %d", short(s), short(shape(got)), e)
		}
	}
}

// P4.2, P4.4: there and back.
func TestRightItems(t *testing.T) {
	for _, x := range rightItems() {
		want := plainBytes(x)
		s, e := rlp.Encode(x)
		if s != want || e != api.OK {
			t.Fatalf("Encode is %s, error %d, not %s", short(s), e, short(want))
		}
		back, e := rlp.Decode(s)
		if e != api.OK || !plainSame(back, x) || !rlp.Same(back, x) {
			t.Errorf("Decode of %s is %s, error %d", short(s), short(shape(back)), e)
		}
	}
}

// P4.2: texts and lists of every size that has an edge near.
func TestEverySize(t *testing.T) {
	check := func(x api.Item) {
		want := plainBytes(x)
		s, e := rlp.Encode(x)
		back, f := rlp.Decode(want)
		if len(want) > api.MaxRlp {
			if s != "" || e != api.ErrLong || !isZero(back) || f != api.ErrLong {
				t.Errorf("of %s: Encode is %s, error %d; Decode error %d", short(want), short(s), e, f)
			}
			return
		}
		if s != want || e != api.OK || f != api.OK || !rlp.Same(back, x) {
			t.Errorf("of %s: Encode is %s, error %d; Decode error %d", short(want), short(s), e, f)
		}
	}
	for size := range 600 {
		check(text(made(size)))
		check(listOfSize(size))
		check(list(slices.Repeat([]api.Item{list()}, size)...))
	}
	for size := 65500; size < 65560; size++ {
		check(text(made(size)))
		check(listOfSize(size))
		check(list(slices.Repeat([]api.Item{text("a")}, size)...))
		check(nest(text(made(size-30)), 11))
	}
}

// P4.2: the most bytes that there may be, and one more.
func TestLong(t *testing.T) {
	items := map[int][]api.Item{
		65535:   {text(made(65532)), listOfSize(65532)},
		65536:   {text(made(65533)), listOfSize(65533), list(slices.Repeat([]api.Item{list()}, 65533)...)},
		65537:   {text(made(65534)), listOfSize(65534), list(slices.Repeat([]api.Item{list()}, 65534)...)},
		65538:   {text(made(65535)), listOfSize(65535)},
		65540:   {text(made(65536)), listOfSize(65536)},
		65541:   {text(made(65537)), listOfSize(65537)},
		1 << 20: {listOfSize(1<<20 - 4)},
	}
	for size, l := range items {
		for _, x := range l {
			bytes := plainBytes(x)
			if len(bytes) != size {
				t.Fatalf("an item has %d bytes, not %d", len(bytes), size)
			}
			want, wantError := bytes, api.OK
			if size > 65536 {
				want, wantError = "", api.ErrLong
			}
			if got, e := rlp.Encode(x); got != want || e != wantError {
				t.Errorf("Encode to %d bytes is %s, error %d", size, short(got), e)
			}
			got, e := rlp.Decode(bytes)
			if e != wantError || e == api.OK && !rlp.Same(got, x) || e != api.OK && !isZero(got) {
				t.Errorf("Decode of %d bytes: error %d", size, e)
			}
		}
	}
}

// P4.2: more bytes than may be are told ahead of all else, in Decode.
func TestLongFirst(t *testing.T) {
	for _, s := range []string{strings.Repeat("\xc1", 65537), made(65537), strings.Repeat("\x00", 65537), "\x80" + made(65536), plainBytes(nest(text(made(65537)), 13))} {
		if got, e := rlp.Decode(s); e != api.ErrLong || !isZero(got) {
			t.Errorf("Decode of %s: error %d", short(s), e)
		}
	}
	for _, s := range []string{strings.Repeat("\xc1", 65536), made(65536), strings.Repeat("\x00", 65536)} {
		if got, e := rlp.Decode(s); e != api.ErrRlp || !isZero(got) {
			t.Errorf("Decode of %s: error %d", short(s), e)
		}
	}
}

// P4.2: lists within each other, alone and beside others.
func TestDeep(t *testing.T) {
	for _, deep := range []int{1, 2, 11, 12, 13, 14, 100, 1000} {
		for _, inner := range []api.Item{list(), text(""), text("a"), text(made(60))} {
			x := nest(inner, deep-1)
			checkDeep(t, x, deep)
			checkDeep(t, list(x), deep+1)
			checkDeep(t, list(text("a"), x), deep+1)
			checkDeep(t, list(x, text("a")), deep+1)
			checkDeep(t, list(list(), list(list()), x, list(list(list())), text(made(70))), max(deep+1, 4))
			checkDeep(t, list(nest(x, 3), x, nest(x, 2)), deep+4)
		}
	}
}

func checkDeep(t *testing.T, x api.Item, deep int) {
	t.Helper()
	bytes := plainBytes(x)
	s, e := rlp.Encode(x)
	back, f := rlp.Decode(bytes)
	if deep > 12 {
		if s != "" || e != api.ErrDeep || !isZero(back) || f != api.ErrDeep {
			t.Errorf("%d deep: Encode %s, error %d; Decode error %d", deep, short(s), e, f)
		}
		return
	}
	if s != bytes || e != api.OK || f != api.OK || !rlp.Same(back, x) {
		t.Errorf("%d deep: Encode %s, error %d; Decode error %d", deep, short(s), e, f)
	}
}

// P4.2: as deep as the bound lets an item be, and as deep as bytes can tell.
func TestVeryDeep(t *testing.T) {
	if s, e := rlp.Encode(nest(list(), 1<<16-1)); s != "" || e != api.ErrDeep {
		t.Errorf("Encode: %s, error %d", short(s), e)
	}
	if s, e := rlp.Encode(list(text("a"), list(), nest(text(made(70000)), 1<<16-2))); s != "" || e != api.ErrDeep {
		t.Errorf("Encode beside others: %s, error %d", short(s), e)
	}
	deepest := "\xc0"
	for more := deepest; len(more) <= api.MaxRlp; more = inLists(more, 1) {
		deepest = more
	}
	if x, e := rlp.Decode(deepest); e != api.ErrDeep || !isZero(x) {
		t.Errorf("Decode of %s: error %d", short(deepest), e)
	}
	for _, last := range []string{"\xc1", "\x81", "\xb8", "\xff"} {
		checkNoItem(t, deepest[:len(deepest)-1]+last)
	}
}

// P4.2: items that are not right, at the top and within, and which error is told first.
func TestNotRight(t *testing.T) {
	wrong := []api.Item{
		{Text: "a", List: []api.Item{text("b")}},
		{Text: "", List: []api.Item{text("b")}},
		{Text: "", List: []api.Item{{}}},
		{Text: "", List: []api.Item{list()}},
		{IsList: true, Text: "a"},
		{IsList: true, Text: "\x00"},
		{IsList: true, Text: "a", List: []api.Item{text("b")}},
		{IsList: true, Text: made(70000)},
		{Text: made(70000), List: []api.Item{{}}},
	}
	for i, x := range wrong {
		deep := min(1+len(x.List), 2)
		for lists := range 20 {
			within := nest(x, lists)
			checkNoBytes(t, i, within, orDeep(deep+lists))
			want := orDeep(deep + lists + 1)
			checkNoBytes(t, i, list(text("a"), within, list(), text("b")), want)
			checkNoBytes(t, i, list(within, text(made(70000))), want)
			checkNoBytes(t, i, list(text(made(70000)), within), want)
			checkNoBytes(t, i, list(x, nest(list(), lists), text("c")), orDeep(max(deep+1, lists+2)))
			checkNoBytes(t, i, list(nest(list(), lists), x), orDeep(max(deep+1, lists+2)))
		}
	}
	// What is not right counts as deep as its own list makes it, a text's too.
	for deep := 2; deep < 20; deep++ {
		checkNoBytes(t, deep, mixedText(nest(list(), deep-2)), orDeep(deep))
		x := text("")
		for range deep - 1 {
			x = api.Item{List: []api.Item{x}}
		}
		checkNoBytes(t, deep, x, orDeep(deep))
		checkNoBytes(t, deep, list(text("a"), x), orDeep(deep+1))
	}
}

func orDeep(deep int) api.Errno {
	if deep > 12 {
		return api.ErrDeep
	}
	return api.ErrArg
}

func checkNoBytes(t *testing.T, name int, x api.Item, want api.Errno) {
	t.Helper()
	if s, e := rlp.Encode(x); s != "" || e != want {
		t.Errorf("%d: Encode is %s, error %d, not %d", name, short(s), e, want)
	}
}

// P4.2: too many bytes and too deep at once is too deep.
func TestDeepAheadOfLong(t *testing.T) {
	for _, x := range []api.Item{nest(text(made(70000)), 12), list(text(made(70000)), nest(list(), 11)), list(nest(list(), 11), text(made(70000)))} {
		checkNoBytes(t, 0, x, api.ErrDeep)
	}
	for _, x := range []api.Item{nest(text(made(70000)), 11), list(text(made(70000)), nest(list(), 10))} {
		checkNoBytes(t, 1, x, api.ErrLong)
	}
}

// P4.2: bytes that are no item's.
func TestNoItem(t *testing.T) {
	wrong := []string{
		// longer heads than need be
		"\x81\x00", "\x81a", "\x81\x7f", "\xb8\x00", "\xb8\x01a", "\xb8\x01\x80", "\xb8\x37" + made(55), "\xb8\x02ab", "\xb9\x00\x38" + made(56), "\xb9\x00\xff" + made(255), "\xba\x00\x01\x00" + made(256),
		"\xbf\x00\x00\x00\x00\x00\x00\x00\x38" + made(56), "\xbf\x00\x00\x00\x00\x00\x00\x01\x00" + made(256),
		"\xf8\x00", "\xf8\x01a", "\xf8\x37" + strings.Repeat("a", 55), "\xf9\x00\x38" + strings.Repeat("a", 56), "\xf9\x00\xff" + strings.Repeat("a", 255), "\xfa\x00\x01\x00" + strings.Repeat("a", 256),
		"\xff\x00\x00\x00\x00\x00\x00\x00\x38" + strings.Repeat("a", 56), "\xff\x00\x00\x00\x00\x00\x00\x01\x00" + strings.Repeat("a", 256),
		"\xb9\x00\x00", "\xf9\x00\x00", "\xbf\x00\x00\x00\x00\x00\x00\x00\x00", "\xff\x00\x00\x00\x00\x00\x00\x00\x00",
		// less behind the head than it tells
		"\x81", "\x82a", "\x83do", "\xb7" + made(54), "\xb8", "\xb8\x38", "\xb8\x38" + made(55), "\xb9\x01", "\xb9\x01\x00", "\xb9\x01\x00" + made(255), "\xbf", "\xbf\xff", "\xbf\xff\xff\xff\xff\xff\xff\xff",
		"\xc1", "\xc2a", "\xf7" + strings.Repeat("a", 54), "\xf8", "\xf8\x38", "\xf8\x38" + strings.Repeat("a", 55), "\xf9\x01", "\xf9\x01\x00", "\xf9\x01\x00" + strings.Repeat("a", 255), "\xff", "\xff\xff",
		"\xbf\xff\xff\xff\xff\xff\xff\xff\xff", "\xbf\xff\xff\xff\xff\xff\xff\xff\xff" + made(100), "\xff\xff\xff\xff\xff\xff\xff\xff\xff", "\xff\xff\xff\xff\xff\xff\xff\xff\xff" + made(100),
		"\xbf\x80\x00\x00\x00\x00\x00\x00\x00" + made(100), "\xff\x80\x00\x00\x00\x00\x00\x00\x38" + made(100), "\xbf\x7f\xff\xff\xff\xff\xff\xff\xff" + made(100), "\xbf\x01\x00\x00\x00\x00\x00\x00\x38" + made(56), "\xbb\x80\x00\x00\x38" + made(56), "\xbc\x01\x00\x00\x00\x38" + made(56),
		"\xfc\x01\x00\x00\x00\x38" + strings.Repeat("a", 56), "\xff\xff\xff\xff\xff\xff\xff\xff\xf8" + strings.Repeat("a", 56),
		// lists whose items end short of the list's end, or behind it
		"\xc1\x81", "\xc1\x81\x80", "\xc2\x82a", "\xc2\x82ab", "\xc1\xc1", "\xc1\xc1a", "\xc2\xc2a", "\xc2a\xc1", "\xc2a\xc1a", "\xc3\x83do", "\xc4\x82ab\x81", "\xc4\x82ab\x81\x80", "\xc4\x84abc", "\xc4\x84abcd", "\xc1\xb8", "\xc1\xb8\x38" + made(56), "\xc2\xb8\x38" + made(56),
		"\xc3\xc2\x81a", "\xc2\x81a", "\xc3\xb8\x01a", "\xc3\xf8\x01a", "\xc4\xc0\xc2\x81\x00", "\xf8\x3a\xb8\x39" + made(56), "\xf8\x39\xb8\x38" + made(56), "\xf8\x3a\xb8\x37" + made(55) + "\x81",
		"\xc9\xbf\xff\xff\xff\xff\xff\xff\xff\xff", "\xc9\xff\xff\xff\xff\xff\xff\xff\xff\xff", "\xca\xbf\xff\xff\xff\xff\xff\xff\xff\xff\x80",
	}
	for _, s := range wrong {
		for lists := range 15 {
			checkNoItem(t, inLists(s, lists))
		}
	}
	checkNoItem(t, "")
}

// P4.2: bytes of several items are none's, but within a list they are what it holds.
func TestMoreBehind(t *testing.T) {
	rows := []string{
		"aa", "\x80\x80", "\x00\x00", "\x81\x80a", "\x83dogs", "\x80\xc0", "\xc0\xc0", "\xc0a", "\xc1aa", "\xc8\x83cat\x83dogs", "\xb8\x38" + made(57), "\xf8\x38" + strings.Repeat("a", 57),
	}
	for _, s := range rows {
		checkNoItem(t, s)
		if x, e := rlp.Decode(inLists(s, 1)); e != api.OK || len(x.List) < 2 {
			t.Errorf("Decode of a list of %s: error %d", short(s), e)
		}
	}
}

// inLists puts bytes, an item's or not, within so many lists.
func inLists(s string, lists int) string {
	for range lists {
		s = plainHead(0xc0, len(s)) + s
	}
	return s
}

func checkNoItem(t *testing.T, s string) {
	t.Helper()
	if x, e := rlp.Decode(s); e != api.ErrRlp || !isZero(x) {
		t.Errorf("Decode of %s is %s, error %d", short(s), short(shape(x)), e)
	}
}

// P4.2: what is no item and too deep at once is no item.
func TestNoItemAheadOfDeep(t *testing.T) {
	deep := plainBytes(nest(list(), 20))
	wide := plainBytes(list(nest(list(), 20), text("a")))
	wrong := []string{
		deep + "\x80", deep + "a", deep[:len(deep)-1], deep[:len(deep)-1] + "\x81", deep[:len(deep)-1] + "\xc1", deep[1:] + "a",
		wide + "a", wide[:len(wide)-1], wide[:len(wide)-1] + "\x81", plainHead(0xc0, len(deep)+2) + deep + "\x81a", plainHead(0xc0, len(deep)+1) + deep + "\xc1",
		"\xf8" + string(rune(len(deep))) + deep,
	}
	for _, s := range wrong {
		checkNoItem(t, s)
	}
	for _, s := range []string{deep, wide} {
		if x, e := rlp.Decode(s); e != api.ErrDeep || !isZero(x) {
			t.Errorf("Decode of %x: error %d", s, e)
		}
	}
}
