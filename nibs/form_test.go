package nibs_test

import (
	"encoding/hex"
	"strings"
	"testing"

	"pharos/api"
	"pharos/nibs"
)

// plainForm is a path's form by hexadecimal digits; the path is one.
func plainForm(path string, leaf bool) string {
	digits := ""
	switch even := len(path)%2 == 0; {
	case even && !leaf:
		digits = "00"
	case even:
		digits = "20"
	case !leaf:
		digits = "1"
	default:
		digits = "3"
	}
	var all strings.Builder
	all.WriteString(digits)
	for _, half := range []byte(path) {
		all.WriteByte("0123456789abcdef"[half])
	}
	form, err := hex.DecodeString(all.String())
	if err != nil {
		panic(err)
	}
	return string(form)
}

// checkForm sees that a path has that form, and that it is read again.
func checkForm(t *testing.T, path string, leaf bool, form string) {
	t.Helper()
	if got, e := nibs.Form(path, leaf); got != form || e != api.OK {
		t.Errorf("Form of %s, leaf %v, is %s, error %d, not %s", short(path), leaf, short(got), e, short(form))
	}
	if got, isLeaf, e := nibs.Read(form); got != path || isLeaf != leaf || e != api.OK {
		t.Errorf("Read of %s is %s, leaf %v, error %d, not %s, leaf %v", short(form), short(got), isLeaf, e, short(path), leaf)
	}
}

// checkNoPath sees that a text has no form.
func checkNoPath(t *testing.T, path string) {
	t.Helper()
	for _, leaf := range []bool{false, true} {
		if got, e := nibs.Form(path, leaf); got != "" || e != api.ErrArg {
			t.Errorf("Form of %s, leaf %v, is %s, error %d", short(path), leaf, short(got), e)
		}
	}
}

// checkNoForm sees that bytes are no path's form.
func checkNoForm(t *testing.T, s string) {
	t.Helper()
	if path, leaf, e := nibs.Read(s); path != "" || leaf || e != api.ErrNibs {
		t.Errorf("Read of %s is %s, leaf %v, error %d", short(s), short(path), leaf, e)
	}
}

// P5.2: the errors have the chapter's numbers.
func TestErrorNumbers(t *testing.T) {
	if _, e := nibs.Form("\x10", false); e != 2 {
		t.Errorf("no path: error %d", e)
	}
	if _, _, e := nibs.Read(""); e != 50 {
		t.Errorf("no form: error %d", e)
	}
}

// P5.2: the chapter's examples, and others written out.
func TestFormsWrittenOut(t *testing.T) {
	cases := []struct {
		path string
		leaf bool
		form string
	}{
		{"\x01\x02\x03", false, "\x11\x23"},
		{"\x00\x01\x02\x03", true, "\x20\x01\x23"},
		{"", false, "\x00"},
		{"", true, "\x20"},
		{"\x01\x02\x03", true, "\x31\x23"},
		{"\x00\x01\x02\x03", false, "\x00\x01\x23"},
		{"\x00", false, "\x10"},
		{"\x00", true, "\x30"},
		{"\x0f", false, "\x1f"},
		{"\x0f", true, "\x3f"},
		{"\x00\x00", false, "\x00\x00"},
		{"\x00\x00", true, "\x20\x00"},
		{"\x0f\x0f", false, "\x00\xff"},
		{"\x0f\x0f", true, "\x20\xff"},
		{"\x00\x0f", false, "\x00\x0f"},
		{"\x0f\x00", false, "\x00\xf0"},
		{"\x00\x00\x00", false, "\x10\x00"},
		{"\x0f\x0f\x0f", true, "\x3f\xff"},
		{"\x01\x02\x03\x04\x05", false, "\x11\x23\x45"},
		{"\x00\x01\x02\x03\x04\x05", false, "\x00\x01\x23\x45"},
		{"\x00\x0f\x01\x0c\x0b\x08", true, "\x20\x0f\x1c\xb8"},
		{"\x0f\x01\x0c\x0b\x08", true, "\x3f\x1c\xb8"},
	}
	for _, x := range cases {
		checkForm(t, x.path, x.leaf, x.form)
		if plain := plainForm(x.path, x.leaf); plain != x.form {
			t.Errorf("the plain form of %x is %x, not %x", x.path, plain, x.form)
		}
	}
}

// P5.2: a path of every length to 300, and long ones, a leaf's and not.
func TestEveryLength(t *testing.T) {
	sizes := []int{1<<20 - 1, 1 << 20, 1<<20 + 1}
	for size := range 300 {
		sizes = append(sizes, size)
	}
	for _, size := range sizes {
		for _, path := range []string{madePath(size), strings.Repeat("\x00", size), strings.Repeat("\x0f", size)} {
			for _, leaf := range []bool{false, true} {
				form := plainForm(path, leaf)
				if len(form) != size/2+1 {
					t.Fatalf("a plain form of %d halves has %d bytes", size, len(form))
				}
				checkForm(t, path, leaf, form)
			}
		}
	}
}

// P5.2: every path of no to three halves.
func TestEveryShortPath(t *testing.T) {
	paths := []string{""}
	for range 4 {
		var longer []string
		for _, path := range paths {
			for _, leaf := range []bool{false, true} {
				checkForm(t, path, leaf, plainForm(path, leaf))
			}
			for half := range 16 {
				longer = append(longer, path+string([]byte{byte(half)}))
			}
		}
		paths = longer
	}
}

// P5.2: every byte at every place of paths of all lengths to 9: up to 15 it is a half, from 16 on there is no path.
func TestEveryByteInAPath(t *testing.T) {
	for size := 1; size < 10; size++ {
		base := []byte(madePath(size))
		for at := range size {
			for other := range 256 {
				b := append([]byte{}, base...)
				b[at] = byte(other)
				if other > 15 {
					checkNoPath(t, string(b))
					continue
				}
				for _, leaf := range []bool{false, true} {
					checkForm(t, string(b), leaf, plainForm(string(b), leaf))
				}
			}
		}
	}
}

// P5.2: texts that are no path: at the beginning, within, at the end of a long one, in several places, all bytes of it.
func TestNoPath(t *testing.T) {
	for _, size := range []int{1, 2, 3, 63, 64, 65, 10000, 10001} {
		good := madePath(size)
		for _, bad := range []string{"\x10", "\x11", "\x1f", "\x20", "\x7f", "\x80", "\xf0", "\xff"} {
			checkNoPath(t, bad)
			checkNoPath(t, bad+good)
			checkNoPath(t, good+bad)
			checkNoPath(t, good+bad+good)
			checkNoPath(t, bad+good+bad)
			checkNoPath(t, strings.Repeat(bad, size))
		}
	}
	for _, text := range []string{"0", "123", "abc", "\x00\x01\x02 \x03", "é", "\x01\x02\x03\n\xff"} {
		checkNoPath(t, text)
	}
}

// P5.2: no bytes at all are no form, though the empty path has one.
func TestNoBytes(t *testing.T) {
	checkNoForm(t, "")
}

// P5.2: every byte as a form's first one, with none to four bytes behind it.
func TestEveryFirstByte(t *testing.T) {
	for first := range 256 {
		for behind := range 5 {
			s := string([]byte{byte(first)}) + made(behind)
			path := plainPath(s)[1:]
			switch {
			case first == 0x00 || first == 0x20:
				checkForm(t, path[1:], first == 0x20, s)
			case first >= 0x10 && first < 0x20 || first >= 0x30 && first < 0x40:
				checkForm(t, path, first >= 0x30, s)
			default:
				checkNoForm(t, s)
			}
		}
	}
}

// P5.2: what is read behind the first byte may be any byte.
func TestEveryByteBehind(t *testing.T) {
	for _, first := range []string{"\x00", "\x20", "\x10", "\x1f", "\x30", "\x37", "\x3f"} {
		head := plainPath(first)[1:]
		if first[0]&0x10 == 0 {
			head = ""
		}
		for second := range 256 {
			one := string([]byte{byte(second)})
			for _, rest := range []string{one, one + "\x00", "\xff" + one, one + one + "\x21"} {
				checkForm(t, head+plainPath(rest), first[0] >= 0x20, first+rest)
			}
		}
	}
}

// P5.2: long bytes that are no form, by their first one alone.
func TestLongNoForm(t *testing.T) {
	for _, first := range []string{"\x01", "\x0f", "\x21", "\x2f", "\x40", "\x41", "\x50", "\x80", "\xc0", "\xff"} {
		for _, size := range []int{63, 64, 10000} {
			checkNoForm(t, first+made(size))
			checkNoForm(t, first+strings.Repeat("\x00", size))
		}
	}
}
