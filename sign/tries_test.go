package sign

import (
	"crypto/sha256"
	"encoding/binary"
	"slices"
	"testing"

	"pharos/api"
)

// wantTries are those of a text.
func wantTries(text string) []uint64 {
	var l []uint64
	for n := range 256 {
		sum := sha256.Sum256(append([]byte(text), byte(n)))
		l = append(l, uint64(binary.BigEndian.Uint32(sum[:4]))%api.Prime)
	}
	return l
}

// P12.1: there are 256 tries, with the bytes 0 to 255 behind the text, modulo the prime.
func TestTries(t *testing.T) {
	for _, text := range []string{"", "a", "\x00", "\xff", "abc", string(make([]byte, 55)), string(make([]byte, 1000))} {
		if got := slices.Collect(tries(text)); !slices.Equal(got, wantTries(text)) {
			t.Errorf("tries of %q: %v", text, got)
		}
	}
}

// R7: tries may be gone through again, and left early.
func TestTriesAgain(t *testing.T) {
	through, want := tries("a"), wantTries("a")
	for _, most := range []int{1, 2, 17, 255, 256, 1} {
		var got []uint64
		for x := range through {
			got = append(got, x)
			if len(got) == most {
				break
			}
		}
		if !slices.Equal(got, want[:most]) {
			t.Errorf("%d tries at most: %v", most, got)
		}
	}
}

// P12.1: the first try that leads to a point, but Inf, is a text's, the last one too; if none does, the generator is.
func TestFirstOf(t *testing.T) {
	const (
		toGenerator = 2 // four times the point with this X is the generator, or its negative
		none        = 1 // no point has this X
		toFlat      = 0 // these two are points' X, four times which is Inf
		toQuarter   = api.Prime - 1
	)
	even := lifted(toGenerator)
	opposite := api.Point{X: api.GenX, Y: api.Prime - api.GenY}
	if even != generator && even != opposite {
		t.Fatalf("2 leads to %v", even)
	}
	another := lifted(11)
	if another == inf || another == even {
		t.Fatalf("11 leads to %v", another)
	}
	misses := func(many int) []uint64 {
		return slices.Repeat([]uint64{none, toFlat, toQuarter, none}, many)[:many]
	}
	for _, c := range []struct {
		name  string
		tries []uint64
		want  api.Point
	}{
		{"the first", []uint64{toGenerator, 11}, even},
		{"the first, and others behind it", []uint64{11, toGenerator}, another},
		{"behind one without a root", []uint64{none, toGenerator, 11}, even},
		{"behind one that leads to Inf", []uint64{toFlat, 11, toGenerator}, another},
		{"behind the other one that does", []uint64{toQuarter, 11, toGenerator}, another},
		{"the last", append(misses(255), 11), another},
		{"none", misses(256), generator},
		{"none that has a root", slices.Repeat([]uint64{none}, 256), generator},
		{"none that is not Inf", slices.Repeat([]uint64{toFlat}, 256), generator},
		{"none at all", nil, generator},
	} {
		if got := firstOf(slices.Values(c.tries)); got != c.want {
			t.Errorf("%s: %v, not %v", c.name, got, c.want)
		}
	}
}

// P12.1: no more is tried than is needed.
func TestFirstOfLeaves(t *testing.T) {
	asked := 0
	count := func(yield func(uint64) bool) {
		for _, x := range []uint64{1, 0, 2, 11, 11} {
			asked++
			if !yield(x) {
				return
			}
		}
	}
	firstOf(count)
	if asked != 3 {
		t.Errorf("%d tries", asked)
	}
}

// R7: points are handed on one by one, again too, and may be left early.
func TestHandOn(t *testing.T) {
	key, _ := Key(1)
	two, _ := Key(2)
	none := "\x00\x00\x00\x00\x00"
	l := []string{key, none, "x", two}
	twice := api.Point{X: 1350530835, Y: 2077719295}
	wantPoints := []api.Point{generator, inf, {}, twice}
	for range 2 {
		for most := 1; most <= len(l); most++ {
			var points []api.Point
			var errors []api.Errno
			for p, e := range handOn(l) {
				points, errors = append(points, p), append(errors, e)
				if len(points) == most {
					break
				}
			}
			if !slices.Equal(points, wantPoints[:most]) || !slices.Equal(errors, []api.Errno{0, 0, api.ErrPoint, 0}[:most]) {
				t.Errorf("%d points at most: %v, errors %v", most, points, errors)
			}
		}
	}
	for p, e := range handOn([]string{none}, inf) {
		if p != (api.Point{}) || e != api.ErrPoint {
			t.Errorf("Inf, barred: %v, error %d", p, e)
		}
	}
}
