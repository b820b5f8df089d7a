package sha_test

import (
	"crypto/sha256"
	"encoding/hex"
	"math/big"
	"strings"
	"sync"
	"testing"

	"pharos/api"
	"pharos/sha"
)

// The tests hold the sums against those of crypto/sha256, and against sums that are published.

func wanted(text string) string {
	sum := sha256.Sum256([]byte(text))
	return string(sum[:])
}

// made is a text of size bytes, the same in each run, in which no byte follows from its neighbours in a plain way.
func made(size int) string {
	text := make([]byte, size)
	state := uint32(size)*2654435761 + 1
	for i := range text {
		state = state*1664525 + 1013904223
		text[i] = byte(state >> 24)
	}
	return string(text)
}

func TestSumOfPublishedTexts(t *testing.T) {
	cases := []struct{ text, digits string }{
		{"", "e3b0c44298fc1c149afbf4c8996fb92427ae41e4649b934ca495991b7852b855"},
		{"abc", "ba7816bf8f01cfea414140de5dae2223b00361a396177a9cb410ff61f20015ad"},
		{"abcdbcdecdefdefgefghfghighijhijkijkljklmklmnlmnomnopnopq", "248d6a61d20638b8e5c026930c3e6039a33ce45964ff2167f6ecedd419db06c1"},
		{strings.Repeat("a", 1000000), "cdc76e5c9914fb9281a1c7e284d73e67f1809a48a497200e046d39ccc7112cd0"},
	}
	for _, c := range cases {
		want, err := hex.DecodeString(c.digits)
		if err != nil {
			t.Fatal(err)
		}
		if got := sha.Sum(c.text); got != string(want) {
			t.Errorf("the sum of %d bytes is %x, not %s", len(c.text), got, c.digits)
		}
	}
}

// Where the text's end, its mark and its length fall in the last blocks changes at the named sizes.
func TestSumOfEverySize(t *testing.T) {
	sizes := []int{1000, 4095, 4096, 4097, 5000, 65536, 100001}
	for size := range 321 {
		sizes = append(sizes, size)
	}
	for _, size := range sizes {
		for _, text := range []string{made(size), strings.Repeat("\x00", size), strings.Repeat("\xff", size)} {
			if got := sha.Sum(text); got != wanted(text) {
				t.Errorf("the sum of %d bytes %.8x.. is %x, not %x", size, text, got, wanted(text))
			}
		}
	}
}

// Every bit of a text counts: a turned one gives another sum.
func TestSumOfTurnedBits(t *testing.T) {
	for bit := range 130 * 8 {
		text := make([]byte, 130)
		text[bit/8] = 1 << (bit % 8)
		if got := sha.Sum(string(text)); got != wanted(string(text)) {
			t.Errorf("bit %d: the sum is %x, not %x", bit, got, wanted(string(text)))
		}
	}
}

func TestSumOfNoParts(t *testing.T) {
	want := wanted("")
	for _, parts := range [][]string{nil, {}, {""}, {"", "", ""}} {
		if got := sha.Sum(parts...); got != want {
			t.Errorf("the sum of %q is %x, not %x", parts, got, want)
		}
	}
	if got := sha.Sum(); got != want {
		t.Errorf("the sum of nothing is %x, not %x", got, want)
	}
}

func TestSumOfEmptyPartsAmongOthers(t *testing.T) {
	for _, parts := range [][]string{{"", "abc"}, {"abc", ""}, {"a", "", "bc"}, {"", "a", "", "", "b", "c", ""}} {
		if got := sha.Sum(parts...); got != wanted("abc") {
			t.Errorf("the sum of %q is %x, not %x", parts, got, wanted("abc"))
		}
	}
}

// The parts' order counts, and nothing stands between them.
func TestSumTakesPartsInOrder(t *testing.T) {
	if got := sha.Sum("b", "a"); got != wanted("ba") {
		t.Errorf("the sum of b, a is %x, not %x", got, wanted("ba"))
	}
}

func TestSumHoweverParted(t *testing.T) {
	for _, size := range []int{1, 2, 55, 56, 63, 64, 65, 119, 120, 128, 200} {
		text := made(size)
		for cut := range size + 1 {
			if got := sha.Sum(text[:cut], text[cut:]); got != wanted(text) {
				t.Errorf("%d bytes cut at %d: the sum is %x, not %x", size, cut, got, wanted(text))
			}
		}
	}
	text := made(5000)
	for _, step := range []int{1, 3, 31, 32, 63, 64, 65, 127, 1000, 4999} {
		var parts []string
		for at := 0; at < len(text); at += step {
			parts = append(parts, text[at:min(at+step, len(text))])
		}
		if got := sha.Sum(parts...); got != wanted(text) {
			t.Errorf("parts of %d bytes: the sum is %x, not %x", step, got, wanted(text))
		}
	}
}

func TestSumLeavesPartsAsTheyAre(t *testing.T) {
	room := []string{"a", "b", "c", "d"}
	parts := room[:2]
	first := sha.Sum(parts...)
	for i, want := range []string{"a", "b", "c", "d"} {
		if room[i] != want {
			t.Errorf("part %d is %q now", i, room[i])
		}
	}
	if second := sha.Sum(parts...); second != first || first != wanted("ab") {
		t.Errorf("the sums are %x and %x, not %x", first, second, wanted("ab"))
	}
}

// Nothing is kept: sums that are reckoned side by side don't meet.
func TestSumKeepsNothing(t *testing.T) {
	var group sync.WaitGroup
	for size := range 64 {
		group.Go(func() {
			for range 20 {
				if text := made(size * 7); sha.Sum(text) != wanted(text) {
					t.Errorf("the sum of %d bytes is another", size*7)
				}
			}
		})
	}
	group.Wait()
}

// The words that the chapter names K and H are found again by roots of whole numbers, through sums that use them all.
func TestRootsOfPrimes(t *testing.T) {
	if got := ownSum("abc"); got != sha.Sum("abc") {
		t.Errorf("by the chapter's words the sum of abc is %x, and not %x", got, sha.Sum("abc"))
	}
}

// ownSum does the chapter's words for a text of one block, with roots that it reckons itself.
func ownSum(text string) string {
	var block [64]byte
	copy(block[:], text)
	block[len(text)] = 0x80
	block[63] = byte(len(text) * 8)
	var w [64]uint32
	for t := range w {
		if t < 16 {
			w[t] = uint32(block[4*t])<<24 | uint32(block[4*t+1])<<16 | uint32(block[4*t+2])<<8 | uint32(block[4*t+3])
			continue
		}
		x, y := w[t-15], w[t-2]
		w[t] = w[t-16] + (right(x, 7) ^ right(x, 18) ^ x>>3) + w[t-7] + (right(y, 17) ^ right(y, 19) ^ y>>10)
	}
	primes := firstPrimes(64)
	var v, start [8]uint32
	for i := range start {
		start[i] = behindPoint(primes[i], 2)
	}
	v = start
	for t := range w {
		t1 := v[7] + (right(v[4], 6) ^ right(v[4], 11) ^ right(v[4], 25)) + (v[4]&v[5] ^ ^v[4]&v[6]) + behindPoint(primes[t], 3) + w[t]
		t2 := (right(v[0], 2) ^ right(v[0], 13) ^ right(v[0], 22)) + (v[0]&v[1] ^ v[0]&v[2] ^ v[1]&v[2])
		v = [8]uint32{t1 + t2, v[0], v[1], v[2], v[3] + t1, v[4], v[5], v[6]}
	}
	var sum []byte
	for i := range v {
		x := v[i] + start[i]
		sum = append(sum, byte(x>>24), byte(x>>16), byte(x>>8), byte(x))
	}
	return string(sum)
}

func right(x uint32, by uint) uint32 { return x>>by | x<<(32-by) }

func firstPrimes(count int) []int64 {
	var primes []int64
	for n := int64(2); len(primes) < count; n++ {
		if big.NewInt(n).ProbablyPrime(20) {
			primes = append(primes, n)
		}
	}
	return primes
}

// behindPoint is the first 32 bits behind the point of the root of n, which is the greatest r whose power is no more than n times 2^(32 power).
func behindPoint(n int64, power uint) uint32 {
	goal := new(big.Int).Lsh(big.NewInt(n), 32*power)
	root := new(big.Int)
	for bit := 40; bit >= 0; bit-- {
		try := new(big.Int).SetBit(root, bit, 1)
		if new(big.Int).Exp(try, big.NewInt(int64(power)), nil).Cmp(goal) <= 0 {
			root = try
		}
	}
	return uint32(root.Uint64())
}

func TestHexOfEveryByte(t *testing.T) {
	const digits = "0123456789abcdef"
	var all, want []byte
	for b := range 256 {
		own := string([]byte{digits[b/16], digits[b%16]})
		if got := sha.Hex(string([]byte{byte(b)})); got != own {
			t.Errorf("the digits of byte %d are %q, not %q", b, got, own)
		}
		all = append(all, byte(b))
		want = append(want, own...)
	}
	if got := sha.Hex(string(all)); got != string(want) {
		t.Errorf("the digits of all bytes are %q", got)
	}
	if got := sha.Hex(""); got != "" {
		t.Errorf("the digits of no bytes are %q", got)
	}
}

func TestUnhex(t *testing.T) {
	cases := []struct{ digits, text string }{
		{"", ""},
		{"00", "\x00"},
		{"00ff", "\x00\xff"},
		{"09", "\x09"},
		{"90", "\x90"},
		{"0a", "\x0a"},
		{"f0", "\xf0"},
		{"616263", "abc"},
		{"deadbeef", "\xde\xad\xbe\xef"},
		{"0000", "\x00\x00"},
	}
	for _, c := range cases {
		if text, e := sha.Unhex(c.digits); text != c.text || e != api.OK {
			t.Errorf("Unhex of %q is %q, %d, not %q, 0", c.digits, text, e, c.text)
		}
	}
}

func TestUnhexRefuses(t *testing.T) {
	wrong := []string{
		"0", "a", "abc", "00f", "0000000", // an odd number of digits
		"AB", "aB", "Ab", "00FF", "0A", "A0", "DEADBEEF", "F0", "0F",
		"0g", "g0", "0x", "0x00", "x0", " 0", "0 ", "00 ", " 00", "0 0 ", "-1", "+1", "0.", "00\n", "\n0", "zz", "0_00", "__",
		"\x00\x00", "0\x00", "\xff\xff", "ä", "٠", "00٠", "０", "ａ0", // bytes and runes that look like digits
		"00000g", "000000000000000G", "abcdefabcdefabcde", "61626x", "x16263",
	}
	for _, digits := range wrong {
		if text, e := sha.Unhex(digits); text != "" || e != api.ErrArg {
			t.Errorf("Unhex of %q is %q, %d, not nothing, %d", digits, text, e, api.ErrArg)
		}
	}
}

// Each pair of bytes is a byte's digits, or is refused, at either place.
func TestUnhexOfEveryPair(t *testing.T) {
	for high := range 256 {
		for low := range 256 {
			digits := string([]byte{byte(high), byte(low)})
			want, err := hex.DecodeString(digits)
			isOne := err == nil && strings.ToLower(digits) == digits
			text, e := sha.Unhex(digits)
			if isOne && (text != string(want) || e != api.OK) || !isOne && (text != "" || e != api.ErrArg) {
				t.Fatalf("Unhex of %q is %q, %d", digits, text, e)
			}
		}
	}
}

func TestUnhexOfHexIsTheText(t *testing.T) {
	for _, size := range []int{0, 1, 2, 31, 32, 33, 64, 255, 256, 4097} {
		text := made(size)
		digits := sha.Hex(text)
		if want := hex.EncodeToString([]byte(text)); digits != want {
			t.Errorf("the digits of %d bytes are %q, not %q", size, digits, want)
		}
		if back, e := sha.Unhex(digits); back != text || e != api.OK {
			t.Errorf("%d bytes came back as %d, %d", size, len(back), e)
		}
		if again, e := sha.Unhex(sha.Hex(digits)); again != digits || e != api.OK {
			t.Errorf("the digits of %d bytes came back as %d, %d", size, len(again), e)
		}
	}
}

func BenchmarkSum(b *testing.B) {
	text := made(1 << 16)
	b.SetBytes(int64(len(text)))
	for b.Loop() {
		sha.Sum(text)
	}
}
