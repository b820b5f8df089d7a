package word_test

import (
	"math/big"
	"strings"
	"testing"

	"pharos/api"
	"pharos/word"
)

// The tests hold the words against the numbers of math/big, which reckon without a bound.

var two256 = new(big.Int).Lsh(big.NewInt(1), 256)

func toBig(a api.Word) *big.Int {
	n := new(big.Int)
	for i := len(a) - 1; i >= 0; i-- {
		n.Lsh(n, 64)
		n.Or(n, new(big.Int).SetUint64(a[i]))
	}
	return n
}

func toSigned(a api.Word) *big.Int {
	n := toBig(a)
	if n.Bit(255) == 1 {
		n.Sub(n, two256)
	}
	return n
}

// toWord takes n modulo 2^256, below 0 too.
func toWord(n *big.Int) api.Word {
	rest := new(big.Int).Mod(n, two256)
	low := new(big.Int).SetUint64(1<<64 - 1)
	var a api.Word
	for i := range a {
		a[i] = new(big.Int).And(rest, low).Uint64()
		rest.Rsh(rest, 64)
	}
	return a
}

func neg(n uint64) api.Word { return toWord(new(big.Int).Neg(new(big.Int).SetUint64(n))) }

func two(n uint) api.Word { return toWord(new(big.Int).Lsh(big.NewInt(1), n)) }

var (
	zero     = api.Word{}
	greatest = api.Word{1<<64 - 1, 1<<64 - 1, 1<<64 - 1, 1<<64 - 1}
	lowest   = api.Word{0, 0, 0, 1 << 63} // -2^255
)

// edges are words at which carries, signs and places change.
func edges() []api.Word {
	var list []api.Word
	for _, n := range []uint64{0, 1, 2, 3, 7, 8, 10, 30, 31, 32, 33, 63, 64, 65, 127, 128, 129, 255, 256, 257, 258, 1000} {
		list = append(list, word.Of(n), neg(n))
	}
	for _, n := range []uint{31, 63, 64, 65, 127, 128, 191, 192, 248, 254, 255} {
		p := toBig(two(n))
		list = append(list, toWord(p), toWord(new(big.Int).Sub(p, big.NewInt(1))), toWord(new(big.Int).Add(p, big.NewInt(1))))
	}
	return append(list,
		api.Word{1<<64 - 1, 1<<64 - 1, 1<<64 - 1, 1 << 63},
		api.Word{0, 0, 1<<64 - 1, 1<<63 - 1},
		api.Word{1<<64 - 1, 0, 1<<64 - 1, 0},
		api.Word{0, 1<<64 - 1, 0, 1<<64 - 1},
		api.Word{1<<64 - 1, 1 << 63, 0, 0},
		api.Word{1, 2, 3, 4},
	)
}

// mixer makes the same words in each run.
type mixer uint64

func (m *mixer) next() uint64 {
	*m += 0x9e3779b97f4a7c15
	z := uint64(*m)
	z = (z ^ z>>30) * 0xbf58476d1ce4e5b9
	z = (z ^ z>>27) * 0x94d049bb133111eb
	return z ^ z>>31
}

// word makes words of all lengths, with parts that are often all 0, all 1, or near a power of two.
func (m *mixer) word() api.Word {
	var a api.Word
	for i := range m.next()%4 + 1 {
		switch m.next() % 6 {
		case 0:
			a[i] = 0
		case 1:
			a[i] = 1<<64 - 1
		case 2:
			a[i] = 1 << 63
		case 3:
			a[i] = m.next() >> (m.next() % 64)
		default:
			a[i] = m.next()
		}
	}
	return a
}

// pairs hands all pairs of edges, and many others, to check.
func pairs(check func(a, b api.Word)) {
	list := edges()
	for _, a := range list {
		for _, b := range list {
			check(a, b)
		}
	}
	m := mixer(1)
	for range 40000 {
		check(m.word(), m.word())
	}
}

// triples hands triples of edges, and many others, to check.
func triples(check func(a, b, c api.Word)) {
	list := edges()
	m := mixer(2)
	for _, a := range list {
		for _, b := range list {
			check(a, b, list[m.next()%uint64(len(list))])
			check(a, b, zero)
			check(a, b, greatest)
		}
	}
	for range 40000 {
		check(m.word(), m.word(), m.word())
	}
}

// same fails the test, with the call's name and what it was given, unless got is want.
func same(t *testing.T, name string, got, want api.Word, given ...api.Word) {
	t.Helper()
	if got != want {
		t.Fatalf("%s of %x: %x, not %x", name, given, got, want)
	}
}

type example struct {
	name      string
	got, want api.Word
}

func examples(t *testing.T, list []example) {
	t.Helper()
	for _, x := range list {
		if x.got != x.want {
			t.Errorf("%s: %x, not %x", x.name, x.got, x.want)
		}
	}
}

// P1.1

func TestOf(t *testing.T) {
	for _, n := range []uint64{0, 1, 258, 1 << 63, 1<<64 - 1} {
		same(t, "Of", word.Of(n), toWord(new(big.Int).SetUint64(n)))
	}
}

func TestSumsDifferencesProducts(t *testing.T) {
	pairs(func(a, b api.Word) {
		x, y := toBig(a), toBig(b)
		same(t, "Add", word.Add(a, b), toWord(new(big.Int).Add(x, y)), a, b)
		same(t, "Sub", word.Sub(a, b), toWord(new(big.Int).Sub(x, y)), a, b)
		same(t, "Mul", word.Mul(a, b), toWord(new(big.Int).Mul(x, y)), a, b)
	})
	examples(t, []example{
		{"Sub(0, 1)", word.Sub(zero, word.Of(1)), greatest},
		{"Add(2^256 - 1, 1)", word.Add(greatest, word.Of(1)), zero},
		{"Mul(2^255, 2)", word.Mul(two(255), word.Of(2)), zero},
		{"Mul(2^256 - 1, 2^256 - 1)", word.Mul(greatest, greatest), word.Of(1)},
	})
}

func TestQuotientsAndRemainders(t *testing.T) {
	pairs(func(a, b api.Word) {
		quotient, rest := new(big.Int), new(big.Int)
		if b != zero {
			quotient.QuoRem(toBig(a), toBig(b), rest)
		}
		same(t, "Div", word.Div(a, b), toWord(quotient), a, b)
		same(t, "Mod", word.Mod(a, b), toWord(rest), a, b)
	})
	examples(t, []example{
		{"Div(7, 0)", word.Div(word.Of(7), zero), zero},
		{"Mod(7, 0)", word.Mod(word.Of(7), zero), zero},
		{"Div(0, 0)", word.Div(zero, zero), zero},
		{"Div(7, 8)", word.Div(word.Of(7), word.Of(8)), zero},
		{"Mod(7, 8)", word.Mod(word.Of(7), word.Of(8)), word.Of(7)},
		{"Div(2^256 - 1, 1)", word.Div(greatest, word.Of(1)), greatest},
		{"Div(2^256 - 1, 2^256 - 1)", word.Div(greatest, greatest), word.Of(1)},
	})
}

// TestQuotientsOfNearProducts: dividends that lie close to a multiple of the divisor.
func TestQuotientsOfNearProducts(t *testing.T) {
	m := mixer(3)
	for range 40000 {
		d, q := m.word(), word.Of(m.next())
		if d == zero {
			continue
		}
		n := toWord(new(big.Int).Mul(toBig(d), toBig(q)))
		for _, a := range []api.Word{n, word.Sub(n, word.Of(1)), word.Add(n, word.Of(1))} {
			quotient, rest := new(big.Int).QuoRem(toBig(a), toBig(d), new(big.Int))
			same(t, "Div", word.Div(a, d), toWord(quotient), a, d)
			same(t, "Mod", word.Mod(a, d), toWord(rest), a, d)
		}
	}
}

func TestSumsAndProductsByAModulus(t *testing.T) {
	triples(func(a, b, m api.Word) {
		sum, product := new(big.Int), new(big.Int)
		if m != zero {
			sum.Mod(sum.Add(toBig(a), toBig(b)), toBig(m))
			product.Mod(product.Mul(toBig(a), toBig(b)), toBig(m))
		}
		same(t, "AddMod", word.AddMod(a, b, m), toWord(sum), a, b, m)
		same(t, "MulMod", word.MulMod(a, b, m), toWord(product), a, b, m)
	})
	examples(t, []example{
		{"AddMod(.., 0)", word.AddMod(word.Of(3), word.Of(4), zero), zero},
		{"MulMod(.., 0)", word.MulMod(word.Of(3), word.Of(4), zero), zero},
		{"AddMod(2^256 - 1, 2^256 - 1, 10)", word.AddMod(greatest, greatest, word.Of(10)), zero},
		{"AddMod(2^256 - 1, 1, 7)", word.AddMod(greatest, word.Of(1), word.Of(7)), word.Of(2)},
		{"AddMod(2^256 - 1, 1, 2^256 - 1)", word.AddMod(greatest, word.Of(1), greatest), word.Of(1)},
		{"MulMod(2^256 - 1, 2^256 - 1, 12)", word.MulMod(greatest, greatest, word.Of(12)), word.Of(9)},
		{"MulMod(2^255, 2, 2^256 - 1)", word.MulMod(two(255), word.Of(2), greatest), word.Of(1)},
		{"MulMod(5, 6, 1)", word.MulMod(word.Of(5), word.Of(6), word.Of(1)), zero},
	})
}

func TestPowers(t *testing.T) {
	check := func(a, n api.Word) {
		same(t, "Exp", word.Exp(a, n), toWord(new(big.Int).Exp(toBig(a), toBig(n), two256)), a, n)
	}
	list := edges()
	for _, a := range list {
		for _, n := range list {
			check(a, n)
		}
	}
	m := mixer(4)
	for range 300 {
		check(m.word(), m.word())
	}
	examples(t, []example{
		{"Exp(0, 0)", word.Exp(zero, zero), word.Of(1)},
		{"Exp(2^256 - 1, 0)", word.Exp(greatest, zero), word.Of(1)},
		{"Exp(0, 5)", word.Exp(zero, word.Of(5)), zero},
		{"Exp(3, 5)", word.Exp(word.Of(3), word.Of(5)), word.Of(243)},
		{"Exp(2, 255)", word.Exp(word.Of(2), word.Of(255)), lowest},
		{"Exp(2, 256)", word.Exp(word.Of(2), word.Of(256)), zero},
		{"Exp(-1, 2^256 - 1)", word.Exp(greatest, greatest), greatest},
	})
}

// P1.2

func TestQuotientsAndRemaindersWithSigns(t *testing.T) {
	pairs(func(a, b api.Word) {
		quotient, rest := new(big.Int), new(big.Int)
		if b != zero {
			quotient.QuoRem(toSigned(a), toSigned(b), rest) // towards 0, as Go's own
		}
		same(t, "SDiv", word.SDiv(a, b), toWord(quotient), a, b)
		same(t, "SMod", word.SMod(a, b), toWord(rest), a, b)
	})
	examples(t, []example{
		{"SDiv(-7, 2)", word.SDiv(neg(7), word.Of(2)), neg(3)},
		{"SMod(-7, 2)", word.SMod(neg(7), word.Of(2)), neg(1)},
		{"SDiv(7, -2)", word.SDiv(word.Of(7), neg(2)), neg(3)},
		{"SMod(7, -2)", word.SMod(word.Of(7), neg(2)), word.Of(1)},
		{"SDiv(-7, -2)", word.SDiv(neg(7), neg(2)), word.Of(3)},
		{"SMod(-7, -2)", word.SMod(neg(7), neg(2)), neg(1)},
		{"SDiv(-2^255, -1)", word.SDiv(lowest, greatest), lowest},
		{"SMod(-2^255, -1)", word.SMod(lowest, greatest), zero},
		{"SDiv(-2^255, 1)", word.SDiv(lowest, word.Of(1)), lowest},
		{"SDiv(-7, 0)", word.SDiv(neg(7), zero), zero},
		{"SMod(-7, 0)", word.SMod(neg(7), zero), zero},
	})
}

func TestLess(t *testing.T) {
	pairs(func(a, b api.Word) {
		if got, want := word.Less(a, b), toBig(a).Cmp(toBig(b)) < 0; got != want {
			t.Fatalf("Less of %x, %x: %t", a, b, got)
		}
		if got, want := word.SLess(a, b), toSigned(a).Cmp(toSigned(b)) < 0; got != want {
			t.Fatalf("SLess of %x, %x: %t", a, b, got)
		}
	})
	if !word.Less(word.Of(1), greatest) || word.SLess(word.Of(1), greatest) {
		t.Error("1 is below 2^256 - 1, and not below -1")
	}
	if !word.SLess(lowest, neg(1)) || !word.SLess(lowest, zero) || word.Less(lowest, zero) {
		t.Error("-2^255 is below -1 and 0, 2^255 is not below 0")
	}
	if word.Less(lowest, lowest) || word.SLess(lowest, lowest) {
		t.Error("a word is below itself")
	}
}

// P1.3

func shifted(n, a api.Word) (left, right, signed *big.Int) {
	if !toBig(n).IsUint64() || n[0] > 255 {
		return big.NewInt(0), big.NewInt(0), big.NewInt(int64(min(0, toSigned(a).Sign())))
	}
	by := uint(n[0])
	return new(big.Int).Lsh(toBig(a), by), new(big.Int).Rsh(toBig(a), by), new(big.Int).Rsh(toSigned(a), by)
}

func TestShifts(t *testing.T) {
	check := func(n, a api.Word) {
		left, right, signed := shifted(n, a)
		same(t, "Shl", word.Shl(n, a), toWord(left), n, a)
		same(t, "Shr", word.Shr(n, a), toWord(right), n, a)
		same(t, "Sar", word.Sar(n, a), toWord(signed), n, a)
	}
	list := edges()
	for _, a := range list {
		for n := range uint64(300) {
			check(word.Of(n), a)
		}
		for _, n := range list {
			check(n, a)
		}
	}
	beyond := []api.Word{word.Of(256), word.Of(300), {1, 1, 0, 0}, {1, 0, 1, 0}, {1, 0, 0, 1}, {0, 1, 0, 0}, two(255), greatest}
	for _, n := range beyond {
		same(t, "Shl", word.Shl(n, greatest), zero, n)
		same(t, "Shr", word.Shr(n, greatest), zero, n)
		same(t, "Sar", word.Sar(n, neg(5)), greatest, n)
		same(t, "Sar", word.Sar(n, word.Of(5)), zero, n)
	}
	examples(t, []example{
		{"Shl(255, 3)", word.Shl(word.Of(255), word.Of(3)), lowest},
		{"Shr(255, -1)", word.Shr(word.Of(255), greatest), word.Of(1)},
		{"Sar(255, -2^255)", word.Sar(word.Of(255), lowest), greatest},
		{"Sar(255, 2^255 - 1)", word.Sar(word.Of(255), word.Sub(lowest, word.Of(1))), zero},
		{"Sar(1, -5)", word.Sar(word.Of(1), neg(5)), neg(3)},
		{"Sar(300, -5)", word.Sar(word.Of(300), neg(5)), greatest},
		{"Shl(0, 9)", word.Shl(zero, word.Of(9)), word.Of(9)},
		{"Shr(64, ..)", word.Shr(word.Of(64), api.Word{1, 2, 3, 4}), api.Word{2, 3, 4}},
	})
}

func extended(k, a api.Word) *big.Int {
	n := toBig(a)
	if !toBig(k).IsUint64() || k[0] > 30 {
		return n
	}
	width := uint(8 * (k[0] + 1))
	whole := new(big.Int).Lsh(big.NewInt(1), width)
	n.Mod(n, whole)
	if n.Bit(int(width-1)) == 1 {
		n.Sub(n, whole)
	}
	return n
}

func TestExtend(t *testing.T) {
	check := func(k, a api.Word) {
		same(t, "Extend", word.Extend(k, a), toWord(extended(k, a)), k, a)
	}
	m := mixer(5)
	list := edges()
	for _, k := range list {
		for _, a := range list {
			check(k, a)
		}
	}
	for range 300 {
		a := m.word()
		for k := range uint64(40) {
			check(word.Of(k), a)
		}
	}
	high := two(247) // the highest bit of the lowest 31 bytes
	top := word.Mul(word.Of(255), two(248))
	examples(t, []example{
		{"Extend(0, 255)", word.Extend(zero, word.Of(255)), greatest},
		{"Extend(0, 127)", word.Extend(zero, word.Of(127)), word.Of(127)},
		{"Extend(0, 256)", word.Extend(zero, word.Of(256)), zero},
		{"Extend(1, 255)", word.Extend(word.Of(1), word.Of(255)), word.Of(255)},
		{"Extend(30, 2^247)", word.Extend(word.Of(30), high), word.Add(high, top)},
		{"Extend(30, 2^248)", word.Extend(word.Of(30), two(248)), zero},
		{"Extend(31, 2^247)", word.Extend(word.Of(31), high), high},
		{"Extend(32, 255)", word.Extend(word.Of(32), word.Of(255)), word.Of(255)},
		{"Extend(2^64, 255)", word.Extend(two(64), word.Of(255)), word.Of(255)},
		{"Extend(2^256 - 1, 255)", word.Extend(greatest, word.Of(255)), word.Of(255)},
	})
}

func TestByte(t *testing.T) {
	m := mixer(6)
	for range 300 {
		a := m.word()
		text := toBig(a).FillBytes(make([]byte, 32))
		for i, b := range text {
			same(t, "Byte", word.Byte(word.Of(uint64(i)), a), word.Of(uint64(b)), word.Of(uint64(i)), a)
		}
	}
	for _, i := range []api.Word{word.Of(32), word.Of(33), word.Of(255), word.Of(256), two(64), two(128), two(192), two(255), greatest} {
		same(t, "Byte", word.Byte(i, greatest), zero, i)
	}
	examples(t, []example{
		{"Byte(31, 258)", word.Byte(word.Of(31), word.Of(258)), word.Of(2)},
		{"Byte(30, 258)", word.Byte(word.Of(30), word.Of(258)), word.Of(1)},
		{"Byte(0, 2^255)", word.Byte(zero, two(255)), word.Of(128)},
	})
}

// P1.4

func TestBytes(t *testing.T) {
	m := mixer(7)
	list := edges()
	for range 300 {
		list = append(list, m.word())
	}
	for _, a := range list {
		if got, want := word.Bytes(a), string(toBig(a).FillBytes(make([]byte, 32))); got != want {
			t.Fatalf("Bytes of %x: %x, not %x", a, got, want)
		}
	}
	if got, want := word.Bytes(word.Of(258)), strings.Repeat("\x00", 30)+"\x01\x02"; got != want {
		t.Errorf("Bytes of 258: %x", got)
	}
}

func TestFrom(t *testing.T) {
	m := mixer(8)
	var text []byte
	for size := range 100 {
		want := new(big.Int).SetBytes(text[max(0, size-32):])
		if got := word.From(string(text)); got != toWord(want) {
			t.Fatalf("From of %x: %x, not %x", text, got, want)
		}
		text = append(text, byte(m.next()))
	}
	examples(t, []example{
		{"From of none", word.From(""), zero},
		{"From of 01 00", word.From("\x01\x00"), word.Of(256)},
		{"From of 32 bytes", word.From(strings.Repeat("\xff", 32)), greatest},
		{"From of 33 bytes", word.From("\x01" + strings.Repeat("\x00", 31) + "\x05"), word.Of(5)},
		{"From of many bytes", word.From(strings.Repeat("\xff", 5000) + strings.Repeat("\x00", 31) + "\x07"), word.Of(7)},
	})
}

// P1.5

func TestWhatFollows(t *testing.T) {
	pairs(func(a, b api.Word) {
		same(t, "Add in both orders", word.Add(a, b), word.Add(b, a), a, b)
		same(t, "Mul in both orders", word.Mul(a, b), word.Mul(b, a), a, b)
		same(t, "From of Bytes", word.From(word.Bytes(a)), a, a)
		if b == zero {
			return
		}
		same(t, "Div, Mul and Mod", word.Add(word.Mul(word.Div(a, b), b), word.Mod(a, b)), a, a, b)
		same(t, "SDiv, Mul and SMod", word.Add(word.Mul(word.SDiv(a, b), b), word.SMod(a, b)), a, a, b)
		if !word.Less(word.Mod(a, b), b) {
			t.Fatalf("Mod of %x, %x is not below the divisor", a, b)
		}
	})
	triples(func(a, b, m api.Word) {
		same(t, "AddMod in both orders", word.AddMod(a, b, m), word.AddMod(b, a, m), a, b, m)
		same(t, "MulMod in both orders", word.MulMod(a, b, m), word.MulMod(b, a, m), a, b, m)
	})
}
