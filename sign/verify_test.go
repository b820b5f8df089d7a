package sign_test

import (
	"strings"
	"testing"

	"pharos/sign"
)

// P12.2: the chapter's examples, and near to them.
func TestVerifyWrittenOut(t *testing.T) {
	five, six := "\x02\x21\xb0\x62\x4b", "\x03\x00\x9d\xf6\xda"
	byFive, bySix, byFiveOfEmpty := "\x03\x6d\x04\x5b\x2c", "\x02\x0f\x75\x3d\x7b", "\x03\x05\x5b\x63\x64"
	for _, c := range []struct {
		name, key, text, sig string
		want                 bool
	}{
		{"its own", five, "a", byFive, true},
		{"another one's own", six, "a", bySix, true},
		{"of the empty text", five, "", byFiveOfEmpty, true},
		{"another signature", five, "a", bySix, false},
		{"another key", six, "a", byFive, false},
		{"another text", five, "b", byFive, false},
		{"the empty text", five, "", byFive, false},
		{"not the empty text", five, "a", byFiveOfEmpty, false},
		{"a longer text", five, "aa", byFive, false},
		{"a text with a byte 0 behind it", five, "a\x00", byFive, false},
		{"the signature's negative", five, "a", "\x02\x6d\x04\x5b\x2c", false},
		{"the key's negative", "\x03\x21\xb0\x62\x4b", "a", byFive, false},
		{"both negatives", "\x03\x21\xb0\x62\x4b", "a", "\x02\x6d\x04\x5b\x2c", true},
		{"the key and the signature changed about", byFive, "a", five, false},
		{"the key as the signature", five, "a", five, false},
		{"the signature as the key", byFive, "a", byFive, false},
		{"the text's point as the signature", five, "a", "\x03\x6f\xaf\xc2\xda", false},
		{"the text's point, of the generator", "\x03\x6e\x0a\x45\x64", "a", "\x03\x6f\xaf\xc2\xda", true},
		{"the generator as the signature", five, "a", "\x03\x6e\x0a\x45\x64", false},
		{"a key of Inf", infBytes, "a", byFive, false},
		{"a signature of Inf", five, "a", infBytes, false},
		{"both of Inf", infBytes, "a", infBytes, false},
		{"both of Inf, of the empty text", infBytes, "", infBytes, false},
		{"no key", "", "a", byFive, false},
		{"no signature", five, "a", "", false},
		{"nothing", "", "", "", false},
	} {
		t.Run(c.name, func(t *testing.T) { expectVerify(t, c.key, c.text, c.sig, c.want) })
	}
}

// P12.2: of secrets at the edges, each with each, a signature holds of its own key alone.
func TestVerifyEdges(t *testing.T) {
	for _, a := range edgeSecrets() {
		for _, b := range edgeSecrets() {
			expectVerify(t, plainKey(a), "a", plainSign(b, "a"), a == b)
		}
		expectVerify(t, plainKey(a), "a", infBytes, false)
		expectVerify(t, infBytes, "a", plainSign(a, "a"), false)
	}
}

// P12.2: texts at the edges: a signature holds of its own text alone.
func TestVerifyTexts(t *testing.T) {
	m := mixer(7)
	l := append(edgeTexts(), strings.Repeat("x", 1<<20))
	for n, text := range l {
		secret := m.secret()
		key, sig := plainKey(secret), plainSign(secret, text)
		expectVerify(t, key, text, sig, true)
		expectVerify(t, key, text+"\x00", sig, false)
		expectVerify(t, key, "\x00"+text, sig, false)
		expectVerify(t, key, l[(n+1)%len(l)], sig, false)
	}
}

// P12.2: a signature holds, if it is the secret times the text's point, and no other point does.
func TestVerify(t *testing.T) {
	m := mixer(8)
	for range 150 {
		secret, other, text := m.secret(), m.secret(), m.text()
		key, sig := plainKey(secret), plainSign(secret, text)
		point, _ := plainHash(text)
		expectVerify(t, key, text, sig, true)
		expectVerify(t, key, text, plainSign(other, text), other == secret)
		expectVerify(t, plainKey(other), text, sig, other == secret)
		expectVerify(t, key, m.text()+"!", sig, false)
		expectVerify(t, key, text, plainBytes(plainTimes(order-secret, point)), false)
		expectVerify(t, key, text, plainBytes(plainTimes(secret+1, point)), false)
		expectVerify(t, key, text, plainBytes(plainTimes(secret, generator)), false)
	}
}

// P12.2: nothing holds, if the key, or the signature, or both are no point's bytes.
func TestVerifyNoPoints(t *testing.T) {
	key, sig := plainKey(5), plainSign(5, "a")
	for _, wrong := range noPoints() {
		for _, text := range []string{"a", ""} {
			expectVerify(t, wrong, text, sig, false)
			expectVerify(t, key, text, wrong, false)
			expectVerify(t, wrong, text, wrong, false)
			expectVerify(t, wrong, text, infBytes, false)
			expectVerify(t, infBytes, text, wrong, false)
		}
	}
}

// P12.2: a key, or a signature, with a point outside the group added, is none.
func TestVerifyOutside(t *testing.T) {
	m := mixer(9)
	for range 30 {
		secret, text := m.secret(), m.text()
		point, _ := plainHash(text)
		key, sig := plainTimes(secret, generator), plainTimes(secret, point)
		expectVerify(t, plainBytes(key), text, plainBytes(sig), true)
		for _, more := range noMembers() {
			expectVerify(t, plainBytes(plainAdd(key, more)), text, plainBytes(sig), false)
			expectVerify(t, plainBytes(key), text, plainBytes(plainAdd(sig, more)), false)
			expectVerify(t, plainBytes(plainAdd(key, more)), text, plainBytes(plainAdd(sig, more)), false)
		}
	}
}

// P12.2: a bit of the key, or the signature, that is another one.
func TestVerifyChangedBits(t *testing.T) {
	key, sig := plainKey(12345), plainSign(12345, "a")
	changed := func(s string, bit int) string {
		b := []byte(s)
		b[bit/8] ^= 1 << (bit % 8)
		return string(b)
	}
	for bit := range 8 * len(key) {
		expectVerify(t, changed(key, bit), "a", sig, false)
		expectVerify(t, key, "a", changed(sig, bit), false)
	}
	for cut := range len(key) {
		expectVerify(t, key[:cut], "a", sig, false)
		expectVerify(t, key, "a", sig[:cut], false)
	}
	expectVerify(t, key, "a", sig, true)
}

// P12.1, P12.2: what Sign tells holds of what Key tells.
func TestOwnSignaturesHold(t *testing.T) {
	m := mixer(10)
	for _, secret := range append(edgeSecrets(), m.secrets(50)...) {
		key, _ := sign.Key(secret)
		text := m.text()
		sig, _ := sign.Sign(secret, text)
		expectVerify(t, key, text, sig, true)
		expectAll(t, []string{key}, text, sig, true)
	}
}
