package sign_test

import (
	"crypto/sha256"
	"encoding/binary"
	"math/big"
	"strings"
	"testing"

	"pharos/api"
	"pharos/sign"
)

// The tests hold points, keys and signatures against the chapter's words, reckoned by math/big and the library's SHA-256, and know the secrets: a signature holds, if it is the secret times the text's point, without any pairing.

const (
	prime    = uint64(api.Prime)
	order    = uint64(api.Order)
	greatest = uint64(1<<64 - 1)
	infBytes = "\x00\x00\x00\x00\x00"
)

var (
	inf       = api.Point{Inf: true}
	generator = at(api.GenX, api.GenY)
	whole     = at(2, 1366308386)         // all points are multiples of it
	flat      = at(0, 0)                  // the one with Y 0: twice it is Inf
	quarter   = at(2147482866, 198372348) // twice it is flat
)

func at(x, y uint64) api.Point { return api.Point{X: x, Y: y} }

func toBig(n uint64) *big.Int { return new(big.Int).SetUint64(n) }

// rest is n modulo the prime, below 0 too.
func rest(n *big.Int) uint64 { return new(big.Int).Mod(n, toBig(prime)).Uint64() }

func minus(a, b uint64) uint64 { return rest(new(big.Int).Sub(toBig(a), toBig(b))) }

// times is the product of all.
func times(l ...uint64) uint64 {
	product := big.NewInt(1)
	for _, n := range l {
		product.Mul(product, toBig(n))
	}
	return rest(product)
}

// inverse is by Euclid's steps, not by a power.
func inverse(a uint64) uint64 {
	return new(big.Int).ModInverse(toBig(a), toBig(prime)).Uint64()
}

// plainWith is the point with that X and the even Y, or that there is none.
func plainWith(x uint64) (api.Point, bool) {
	root := new(big.Int).ModSqrt(toBig(times(x, x, x)+x%prime), toBig(prime))
	if root == nil {
		return api.Point{}, false
	}
	p := at(x, root.Uint64())
	if p.Y%2 == 1 {
		p = plainNeg(p)
	}
	return p, true
}

func plainNeg(p api.Point) api.Point {
	if p.Inf || p.Y == 0 {
		return p
	}
	return at(p.X, prime-p.Y)
}

func plainAdd(p, q api.Point) api.Point {
	var slope uint64
	switch {
	case p.Inf:
		return q
	case q.Inf:
		return p
	case p.X != q.X:
		slope = times(minus(q.Y, p.Y), inverse(minus(q.X, p.X)))
	case p.Y != q.Y || p.Y == 0:
		return inf
	default:
		slope = times(3*times(p.X, p.X)+1, inverse(2*p.Y))
	}
	x := minus(minus(times(slope, slope), p.X), q.X)
	return at(x, minus(times(slope, minus(p.X, x)), p.Y))
}

// plainTimes goes from the lowest bit on.
func plainTimes(n uint64, p api.Point) api.Point {
	multiple := inf
	for ; n > 0; n /= 2 {
		if n%2 == 1 {
			multiple = plainAdd(multiple, p)
		}
		p = plainAdd(p, p)
	}
	return multiple
}

// text5 is five bytes: a first one, and X.
func text5(first byte, x uint64) string {
	return string([]byte{first, byte(x >> 24), byte(x >> 16), byte(x >> 8), byte(x)})
}

func plainBytes(p api.Point) string {
	if p.Inf {
		return infBytes
	}
	return text5(byte(2+p.Y%2), p.X)
}

// plainTry is what is tried for a text's point: the number, modulo the prime or not yet, and what it leads to.
func plainTry(text string, n int) (uint64, api.Point) {
	sum := sha256.Sum256(append([]byte(text), byte(n)))
	number := uint64(binary.BigEndian.Uint32(sum[:4]))
	p, there := plainWith(number % prime)
	if !there {
		return number, inf
	}
	return number, plainTimes(4, p)
}

// plainHash is a text's point, and which try leads to it.
func plainHash(text string) (api.Point, int) {
	for n := range 256 {
		if _, p := plainTry(text, n); p != inf {
			return p, n
		}
	}
	return generator, 256
}

func plainKey(secret uint64) string { return plainBytes(plainTimes(secret, generator)) }

func plainSign(secret uint64, text string) string {
	p, _ := plainHash(text)
	return plainBytes(plainTimes(secret, p))
}

// mixer makes the same numbers in each run.
type mixer uint64

func (m *mixer) next() uint64 {
	*m += 0x9e3779b97f4a7c15
	z := uint64(*m)
	z = (z ^ z>>30) * 0xbf58476d1ce4e5b9
	z = (z ^ z>>27) * 0x94d049bb133111eb
	return z ^ z>>31
}

func (m *mixer) secret() uint64 { return 1 + m.next()%(order-1) }

// secrets makes as many.
func (m *mixer) secrets(many int) []uint64 {
	l := make([]uint64, many)
	for n := range l {
		l[n] = m.secret()
	}
	return l
}

// text makes one of less than 200 bytes.
func (m *mixer) text() string {
	b := make([]byte, m.next()%200)
	for n := range b {
		b[n] = byte(m.next())
	}
	return string(b)
}

// edgeSecrets are the least and the greatest ones, and some between.
func edgeSecrets() []uint64 {
	return []uint64{1, 2, 3, 4, 5, 255, 256, 65535, 65536, order / 4, order / 2, order/2 + 1, 1 << 28, order - 3, order - 2, order - 1}
}

// noSecrets are numbers that are none, though some are modulo the order, or the prime, or as 32 bits.
func noSecrets() []uint64 {
	return []uint64{
		0, order, order + 1, order + 2, 1 << 29, 2*order - 1, 2 * order, 2*order + 1, 3 * order, 4*order - 1, 4 * order,
		prime - 1, prime, prime + 1, prime + 2, 1 << 31, 1<<32 - 1, 1 << 32, 1<<32 + 1, order << 32, order<<32 + 1,
		1<<63 - 1, 1 << 63, 1<<63 + 1, greatest - order, greatest - 1, greatest,
	}
}

// rareTexts are one whose first 30 tries have no root, and ones whose first try has one, but four times the point is Inf.
func rareTexts() []string {
	return []string{"2106390923", "876699657", "2719823643", "1420208256", "5176096847", "158823659"}
}

// edgeTexts are of all lengths near where a block ends, long ones, ones of the least and greatest bytes, and rare ones.
func edgeTexts() []string {
	l := []string{"", "a", "b", "m", "abc", "\x00", "\xff", "\x00\x00", "\xff\xff", "a\x00", "\x00a", "a\x01", infBytes, "\xe4\xb8\xad", "\xff\xfe\x80"}
	for _, size := range []int{31, 32, 33, 53, 54, 55, 56, 62, 63, 64, 65, 118, 119, 120, 127, 128, 255, 256, 1000, 4096, 100000} {
		l = append(l, strings.Repeat("x", size), strings.Repeat("\x00", size))
	}
	return append(l, rareTexts()...)
}

// noPoints are texts that are no point's bytes: too short, too long, another first byte, an X not below the prime, of no point, of a point that is not of the group.
func noPoints() []string {
	key := plainKey(1)
	l := []string{
		"", "\x00", "\x02", "x", key[:1], key[:4], key[1:], infBytes[:4],
		key + "\x00", "\x00" + key, key + key, infBytes + "\x00", infBytes + infBytes, strings.Repeat("\x00", 1000), "036e0a4564", "generator",
	}
	for _, first := range []byte{0, 1, 4, 5, 6, 7, 0x20, 0x30, '2', '3', 0x80, 0x82, 0x83, 0xfe, 0xff} {
		l = append(l, text5(first, api.GenX))
	}
	for _, first := range []byte{1, 2, 3, 4, 0xff} {
		l = append(l, text5(first, 0))
	}
	small := plainTimes(4, generator) // its X, and the prime, have no more than four bytes
	for _, first := range []byte{2, 3} {
		l = append(l, text5(first, 11+prime), text5(first, small.X+prime), text5(first, prime), text5(first, 2*prime), text5(first, 1<<32-1))
		l = append(l, text5(first, 1), text5(first, 3), text5(first, 5))
	}
	for _, p := range []api.Point{whole, quarter, plainNeg(quarter), plainTimes(2, whole), plainAdd(generator, flat), plainAdd(generator, quarter), plainNeg(plainAdd(generator, quarter))} {
		l = append(l, plainBytes(p), plainBytes(plainNeg(p)))
	}
	return l
}

// noMembers are points that are not of the group, of each other order.
func noMembers() []api.Point {
	return []api.Point{flat, quarter, plainNeg(quarter), whole, plainTimes(2, whole), plainAdd(whole, flat)}
}

func expectHash(t *testing.T, text string, want api.Point) {
	t.Helper()
	if got := sign.Hash(text); got != want {
		t.Fatalf("Hash of %.60q (%d bytes): %v, not %v", text, len(text), got, want)
	}
}

// expectBytes fails the test, with the call's name and what it was given, unless the answer is those bytes, and no error.
func expectBytes(t *testing.T, name string, got string, e api.Errno, want string, given any) {
	t.Helper()
	if got != want || e != api.OK {
		t.Fatalf("%s of %.200v: %x, error %d, not %x", name, given, got, e, want)
	}
}

// expectError does, unless the answer is that error, and nothing else.
func expectError(t *testing.T, name string, got string, e, want api.Errno, given any) {
	t.Helper()
	if got != "" || e != want {
		t.Fatalf("%s of %.200v: %x, error %d, not %d", name, given, got, e, want)
	}
}

func expectSum(t *testing.T, points []string, want string) {
	t.Helper()
	got, e := sign.Sum(points)
	expectBytes(t, "Sum", got, e, want, hexes(points))
}

func expectNoSum(t *testing.T, points []string) {
	t.Helper()
	got, e := sign.Sum(points)
	expectError(t, "Sum", got, e, api.ErrPoint, hexes(points))
}

func expectVerify(t *testing.T, key, text, sig string, want bool) {
	t.Helper()
	if got := sign.Verify(key, text, sig); got != want {
		t.Fatalf("Verify of %x, %.60q, %x: %v", key, text, sig, got)
	}
}

func expectAll(t *testing.T, keys []string, text, sig string, want bool) {
	t.Helper()
	if got := sign.All(keys, text, sig); got != want {
		t.Fatalf("All of %x, %.60q, %x: %v", hexes(keys), text, sig, got)
	}
}

// hexes are texts as bytes, which a failing test tells by their digits.
func hexes(l []string) [][]byte {
	var all [][]byte
	for _, s := range l {
		all = append(all, []byte(s))
	}
	return all
}
