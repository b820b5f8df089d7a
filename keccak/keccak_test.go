package keccak_test

import (
	"crypto/sha3"
	"encoding/hex"
	"math/bits"
	"strings"
	"sync"
	"testing"

	"pharos/keccak"
)

// The library has SHA3-256, which is Keccak-256 but for the byte behind the text: 6, where here 1 stands. So the tests have a plain digest of their own, step by step as the chapter says it, with that byte as an argument: with 6 it is held against crypto/sha3, with 1 the program is held against it.

type lanes [5][5]uint64

func plainDigest(text string, mark byte) string {
	padded := append([]byte(text), mark)
	for len(padded)%136 != 0 {
		padded = append(padded, 0)
	}
	padded[len(padded)-1] ^= 0x80
	var a lanes
	for ; len(padded) > 0; padded = padded[136:] {
		for at := range 136 {
			lane := at / 8
			a[lane%5][lane/5] ^= uint64(padded[at]) << (at % 8 * 8)
		}
		a = plainRounds(a)
	}
	digest := make([]byte, 32)
	for at := range digest {
		digest[at] = byte(a[at/8][0] >> (at % 8 * 8))
	}
	return string(digest)
}

func plainRounds(a lanes) lanes {
	turns, row := plainTurns(), plainRow()
	for i := range 24 {
		var c [5]uint64
		var b lanes
		for x := range 5 {
			for y := range 5 {
				c[x] ^= a[x][y]
			}
		}
		for x := range 5 {
			for y := range 5 {
				joined := a[x][y] ^ c[(x+4)%5] ^ bits.RotateLeft64(c[(x+1)%5], 1)
				b[y][(2*x+3*y)%5] = bits.RotateLeft64(joined, turns[x][y])
			}
		}
		for x := range 5 {
			for y := range 5 {
				a[x][y] = b[x][y] ^ ^b[(x+1)%5][y]&b[(x+2)%5][y]
			}
		}
		for j := range 7 {
			a[0][0] ^= row[j+7*i] << (1<<j - 1)
		}
	}
	return a
}

func plainTurns() [5][5]int {
	var turns [5][5]int
	x, y := 1, 0
	for t := range 24 {
		turns[x][y] = (t + 1) * (t + 2) / 2 % 64
		x, y = y, (2*x+3*y)%5
	}
	return turns
}

func plainRow() [7 * 24]uint64 {
	var row [7 * 24]uint64
	byteNow := 1
	for at := range row {
		row[at] = uint64(byteNow & 1)
		byteNow <<= 1
		if byteNow&256 != 0 {
			byteNow ^= 0x171
		}
	}
	return row
}

func wanted(text string) string { return plainDigest(text, 1) }

// made is a text of size bytes, the same in each run, in which no byte follows from its neighbours in a plain way.
func made(size int) string {
	text := make([]byte, size)
	state := uint32(size)*2654435761 + 1
	for i := range text {
		state = state*1664525 + 1013904223
		text[i] = byte(state >> 24)
	}
	return string(text)
}

// sizes are all up to a little past three blocks, and some of a few thousand bytes and more, at blocks' ends and beside them.
func sizes() []int {
	all := []int{1000, 4079, 4080, 4081, 5000, 8192, 65535, 65536}
	for size := range 3*136 + 10 {
		all = append(all, size)
	}
	return all
}

func TestPlainDigestIsTheLibrarys(t *testing.T) {
	for _, size := range sizes() {
		text := made(size)
		want := sha3.Sum256([]byte(text))
		if got := plainDigest(text, 6); got != string(want[:]) {
			t.Errorf("the plain digest of %d bytes, with 6 behind them, is %x, not %x", size, got, want)
		}
	}
}

func TestSumOfPublishedTexts(t *testing.T) {
	cases := []struct{ text, digits string }{
		{"", "c5d2460186f7233c927e7db2dcc703c0e500b653ca82273b7bfad8045d85a470"},
		{"abc", "4e03657aea45a94fc7d47ba826c8d667c0d1e6e33a64a036ec44f58fa12d6c45"},
		{"\x80", "56e81f171bcc55a6ff8345e692c0f86e5b48e01b996cadc001622fb5e363b421"},
		{"\xc0", "1dcc4de8dec75d7aab85b567b6ccd41ad312451b948a7413f0a142fd40d49347"},
		{"\xcc", "eead6dbfc7340a56caedc044696a168870549a6a7f6f56961e84a54bd9970b8a"},
		{"testing", "5f16f4c7f149ac4f9510d9cf8cf384038ad348b3bcdc01915f95de12df9d1b02"},
		{"The quick brown fox jumps over the lazy dog", "4d741b6f1eb29cb2a9b9911c82f56fa8d73b04959d3d9d222895df6c0b28aa15"},
		{"The quick brown fox jumps over the lazy dog.", "578951e24efd62a3d63a86f7cd19aaa53c898fe287d2552133220370240b572d"},
	}
	for _, c := range cases {
		want, err := hex.DecodeString(c.digits)
		if err != nil {
			t.Fatal(err)
		}
		if got := keccak.Sum(c.text); got != string(want) {
			t.Errorf("the digest of %q is %x, not %s", c.text, got, c.digits)
		}
	}
}

// Where a text's end and its marks fall in the last block and in its lanes changes from size to size: at 135 bytes both marks are one byte, at 136 they have a block of their own.
func TestSumOfEverySize(t *testing.T) {
	for _, size := range sizes() {
		for _, text := range []string{made(size), strings.Repeat("\x00", size), strings.Repeat("\xff", size)} {
			if got := keccak.Sum(text); got != wanted(text) {
				t.Errorf("the digest of %d bytes %.8x.. is %x, not %x", size, text, got, wanted(text))
			}
		}
	}
}

// A text that itself ends with what stands behind another is another text.
func TestSumOfTextsThatEndWithTheMarks(t *testing.T) {
	for size := range 137 {
		marked := made(size) + "\x01"
		for len(marked)%136 != 0 {
			marked += "\x00"
		}
		marked = marked[:len(marked)-1] + string([]byte{marked[len(marked)-1] ^ 0x80})
		if got := keccak.Sum(marked); got != wanted(marked) || got == keccak.Sum(made(size)) {
			t.Errorf("the digest of %d bytes and their marks is %x, not %x", size, got, wanted(marked))
		}
	}
}

// Every bit of a text counts, at its own place.
func TestSumOfTurnedBits(t *testing.T) {
	for bit := range 140 * 8 {
		text := make([]byte, 140)
		text[bit/8] = 1 << (bit % 8)
		if got := keccak.Sum(string(text)); got != wanted(string(text)) {
			t.Errorf("bit %d: the digest is %x, not %x", bit, got, wanted(string(text)))
		}
	}
}

func TestSumOfNoParts(t *testing.T) {
	want := wanted("")
	for _, parts := range [][]string{nil, {}, {""}, {"", "", ""}} {
		if got := keccak.Sum(parts...); got != want {
			t.Errorf("the digest of %q is %x, not %x", parts, got, want)
		}
	}
	if got := keccak.Sum(); got != want {
		t.Errorf("the digest of nothing is %x, not %x", got, want)
	}
}

func TestSumOfEmptyPartsAmongOthers(t *testing.T) {
	for _, parts := range [][]string{{"", "abc"}, {"abc", ""}, {"a", "", "bc"}, {"", "a", "", "", "b", "c", ""}} {
		if got := keccak.Sum(parts...); got != wanted("abc") {
			t.Errorf("the digest of %q is %x, not %x", parts, got, wanted("abc"))
		}
	}
	block := made(136)
	for _, parts := range [][]string{{"", block}, {block, ""}, {block[:8], "", block[8:]}} {
		if got := keccak.Sum(parts...); got != wanted(block) {
			t.Errorf("the digest of a block with an empty part is %x, not %x", got, wanted(block))
		}
	}
}

// The parts' order counts, and nothing stands between them.
func TestSumTakesPartsInOrder(t *testing.T) {
	if got := keccak.Sum("b", "a"); got != wanted("ba") {
		t.Errorf("the digest of b, a is %x, not %x", got, wanted("ba"))
	}
}

// Cuts at every place: within an eight of bytes, between two, and at a block's end.
func TestSumHoweverParted(t *testing.T) {
	for _, size := range []int{1, 2, 7, 8, 9, 134, 135, 136, 137, 271, 272, 273} {
		text := made(size)
		want := wanted(text)
		for cut := range size + 1 {
			if got := keccak.Sum(text[:cut], text[cut:]); got != want {
				t.Errorf("%d bytes cut at %d: the digest is %x, not %x", size, cut, got, want)
			}
		}
	}
	text := made(5000)
	want := wanted(text)
	for _, step := range []int{1, 3, 7, 8, 9, 31, 32, 135, 136, 137, 272, 1000, 4999} {
		if got := keccak.Sum(partsOf(text, step)...); got != want {
			t.Errorf("parts of %d bytes: the digest is %x, not %x", step, got, want)
		}
	}
}

func partsOf(text string, step int) []string {
	var parts []string
	for at := 0; at < len(text); at += step {
		parts = append(parts, text[at:min(at+step, len(text))])
	}
	return parts
}

func TestSumHas32Bytes(t *testing.T) {
	for size := range 300 {
		if got := keccak.Sum(made(size)); len(got) != 32 {
			t.Errorf("the digest of %d bytes has %d bytes", size, len(got))
		}
	}
}

// The list of parts stays as it was handed in, its spare room too, and is not kept.
func TestSumLeavesPartsAlone(t *testing.T) {
	room := []string{"a", "bc", "spare", "room"}
	first := keccak.Sum(room[:2]...)
	if strings.Join(room, " ") != "a bc spare room" {
		t.Errorf("the parts became %q", room)
	}
	room[0] = "z"
	if first != wanted("abc") || keccak.Sum("abc") != first {
		t.Error("a digest changed with the parts that were handed in")
	}
}

// A digest hangs on its text alone: not on those made ahead of it, nor on those made beside it.
func TestSumsAtOnce(t *testing.T) {
	var joined sync.WaitGroup
	for worker := range 8 {
		joined.Go(func() {
			for size := worker; size < 400; size += 8 {
				if got := keccak.Sum(made(size)); got != wanted(made(size)) {
					t.Errorf("the digest of %d bytes is %x, not %x", size, got, wanted(made(size)))
				}
			}
		})
	}
	joined.Wait()
}

func BenchmarkSum(b *testing.B) {
	text := made(1000)
	for b.Loop() {
		keccak.Sum(text)
	}
}
