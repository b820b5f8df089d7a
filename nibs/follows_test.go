package nibs_test

import (
	"sync"
	"testing"
	"unsafe"

	"pharos/api"
	"pharos/nibs"
)

// P5.3: bytes are written as they were once they are read, all of one and two, and no others than the forms of so many paths are read.
func TestWrittenAgain(t *testing.T) {
	const (
		ofOne = 2 * (1 + 16)           // the empty path, and those of one half
		ofTwo = 2 * (16*16 + 16*16*16) // those of two and of three halves
	)
	one, two := 0, 0
	for first := range 256 {
		one += writtenAgain(t, string([]byte{byte(first)}))
		for second := range 256 {
			two += writtenAgain(t, string([]byte{byte(first), byte(second)}))
		}
	}
	if one != ofOne || two != ofTwo {
		t.Errorf("so many forms of one byte and of two: %d, %d, not %d, %d", one, two, ofOne, ofTwo)
	}
	for size := range 300 {
		for first := range 256 {
			writtenAgain(t, string([]byte{byte(first)})+made(size))
		}
	}
}

// writtenAgain is 1 for a form, which has to be written as it was, else 0.
func writtenAgain(t *testing.T, s string) int {
	t.Helper()
	path, leaf, e := nibs.Read(s)
	if e != api.OK {
		if path != "" || leaf || e != api.ErrNibs {
			t.Errorf("Read of %s is %s, leaf %v, error %d", short(s), short(path), leaf, e)
		}
		return 0
	}
	if again, e := nibs.Form(path, leaf); again != s || e != api.OK {
		t.Errorf("%s is written as %s, error %d", short(s), short(again), e)
	}
	return 1
}

// P5.3: unlike paths, and leaves and others, have unlike forms.
func TestOneToOne(t *testing.T) {
	type told struct {
		path string
		leaf bool
	}
	forms := map[string]told{}
	paths := []string{""}
	for range 4 {
		var longer []string
		for _, path := range paths {
			for _, leaf := range []bool{false, true} {
				form, e := nibs.Form(path, leaf)
				if other, had := forms[form]; had || e != api.OK {
					t.Errorf("%x, leaf %v, has the form %x (error %d) of %x, leaf %v", path, leaf, form, e, other.path, other.leaf)
				}
				forms[form] = told{path, leaf}
			}
			for half := range 16 {
				longer = append(longer, path+string([]byte{byte(half)}))
			}
		}
		paths = longer
	}
}

// P5.3: a key's path, and every piece of it, is a path: it has a form, and is read from it.
func TestPathsOfKeys(t *testing.T) {
	for size := range 65 {
		path := nibs.Of(made(size))
		if len(path) != 2*size {
			t.Errorf("the path of a key of %d bytes has %d", size, len(path))
		}
		for from := range len(path) + 1 {
			for _, leaf := range []bool{false, true} {
				checkForm(t, path[from:], leaf, plainForm(path[from:], leaf))
				checkForm(t, path[:from], leaf, plainForm(path[:from], leaf))
			}
		}
	}
}

// P5.3: behind its first byte, the form of a path of an even length is the key's bytes.
func TestFormOfAKey(t *testing.T) {
	for size := range 65 {
		key := made(size)
		checkForm(t, nibs.Of(key), false, "\x00"+key)
		checkForm(t, nibs.Of(key), true, "\x20"+key)
	}
}

// R3: what is answered is new memory: texts laid over bytes that are written into later stay as they were.
func TestNothingKept(t *testing.T) {
	answers := map[string]func(string) string{
		"Of": nibs.Of,
		"Form": func(s string) string {
			form, _ := nibs.Form(s, true)
			return form
		},
		"Read": func(s string) string {
			path, _, _ := nibs.Read(s)
			return path
		},
	}
	for name, answer := range answers {
		bytes := []byte("\x10\x01\x02\x03\x04\x05")
		if name == "Form" {
			bytes[0] = 1
		}
		before := string(bytes)
		got := answer(unsafe.String(&bytes[0], len(bytes)))
		if string(bytes) != before {
			t.Errorf("%s wrote into what it was handed", name)
		}
		want := answer(before)
		for i := range bytes {
			bytes[i] = 0xee
		}
		if got != want || got == "" {
			t.Errorf("%s is %x, not %x: it kept what it was handed", name, got, want)
		}
	}
}

// R4: what is answered hangs on the arguments alone; calls side by side don't meet.
func TestSideBySide(t *testing.T) {
	var workers sync.WaitGroup
	for shift := range 4 {
		workers.Go(func() {
			for i := range 300 {
				size := (i + shift*71) % 300
				path := madePath(size)
				checkForm(t, path, shift%2 == 0, plainForm(path, shift%2 == 0))
				checkNoPath(t, path+"\x10")
				checkNoForm(t, "\x40"+path)
				if key := made(size); nibs.Of(key) != plainPath(key) || nibs.Common(key, key+path) != size {
					t.Errorf("Of or Common of %s", short(key))
				}
			}
		})
	}
	workers.Wait()
}

// R5: great texts are answered, too.
func TestGreat(t *testing.T) {
	key := made(1 << 24)
	path := nibs.Of(key)
	if len(path) != 2*len(key) || nibs.Common(path, nibs.Of(key)) != len(path) {
		t.Fatalf("the path has %d bytes", len(path))
	}
	form, e := nibs.Form(path, true)
	if form != "\x20"+key || e != api.OK {
		t.Errorf("the form has %d bytes, error %d", len(form), e)
	}
	if back, leaf, e := nibs.Read(form); back != path || !leaf || e != api.OK {
		t.Errorf("the path has %d bytes, leaf %v, error %d", len(back), leaf, e)
	}
	checkNoPath(t, path+"\x10")
}
