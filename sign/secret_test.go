package sign_test

import (
	"strings"
	"testing"

	"pharos/api"
	"pharos/curve"
	"pharos/sign"
)

func expectKey(t *testing.T, secret uint64, want string) {
	t.Helper()
	got, e := sign.Key(secret)
	expectBytes(t, "Key", got, e, want, secret)
}

func expectSign(t *testing.T, secret uint64, text, want string) {
	t.Helper()
	got, e := sign.Sign(secret, text)
	expectBytes(t, "Sign", got, e, want, []any{secret, text})
}

// P12.1: keys, and signatures of two texts, written out.
func TestSecretsWrittenOut(t *testing.T) {
	for _, c := range []struct {
		secret            uint64
		key, ofA, ofEmpty string
	}{
		{1, "\x03\x6e\x0a\x45\x64", "\x03\x6f\xaf\xc2\xda", "\x02\x14\xeb\xd2\x21"},
		{2, "\x03\x50\x7f\x77\x13", "\x03\x5e\xbd\xed\xe1", "\x03\x29\x1b\x67\x3a"},
		{3, "\x03\x7e\x0b\x66\x9d", "\x02\x0d\x49\x0d\xef", "\x03\x00\xf4\xc5\x84"},
		{4, "\x02\x02\x6c\x02\xe0", "\x02\x15\x96\x67\xd2", "\x03\x56\xde\xfa\x08"},
		{5, "\x02\x21\xb0\x62\x4b", "\x03\x6d\x04\x5b\x2c", "\x03\x05\x5b\x63\x64"},
		{6, "\x03\x00\x9d\xf6\xda", "\x02\x0f\x75\x3d\x7b", "\x02\x76\x65\x96\xa9"},
		{7, "\x02\x3f\x9d\x5e\xd8", "\x02\x71\xd7\x2b\x70", "\x03\x3a\xef\x16\x63"},
		{12345, "\x02\x55\x89\x9d\x38", "\x03\x7c\x63\xaf\xc5", "\x03\x5f\x04\xdd\x46"},
		{268435358, "\x02\x71\xc7\x19\xc0", "\x03\x09\xa8\x46\x48", "\x02\x0c\x9a\xb2\x68"},
		{268435359, "\x03\x71\xc7\x19\xc0", "\x02\x09\xa8\x46\x48", "\x03\x0c\x9a\xb2\x68"},
		{536870715, "\x02\x50\x7f\x77\x13", "\x02\x5e\xbd\xed\xe1", "\x02\x29\x1b\x67\x3a"},
		{536870716, "\x02\x6e\x0a\x45\x64", "\x02\x6f\xaf\xc2\xda", "\x03\x14\xeb\xd2\x21"},
	} {
		expectKey(t, c.secret, c.key)
		expectSign(t, c.secret, "a", c.ofA)
		expectSign(t, c.secret, "", c.ofEmpty)
	}
}

// P12.1: the key of 1 is the generator's bytes, its signature those of the text's point; of Order - 1 the negatives'.
func TestFirstAndLastSecret(t *testing.T) {
	bytes := func(p api.Point) string {
		s, e := curve.Bytes(p)
		if e != api.OK {
			t.Fatalf("Bytes of %v: error %d", p, e)
		}
		return s
	}
	expectKey(t, 1, bytes(generator))
	expectKey(t, order-1, bytes(plainNeg(generator)))
	for _, text := range edgeTexts() {
		expectSign(t, 1, text, bytes(sign.Hash(text)))
		expectSign(t, order-1, text, bytes(plainNeg(sign.Hash(text))))
	}
}

// P12.1: keys and signatures of secrets at the edges, and of others.
func TestSecrets(t *testing.T) {
	m := mixer(3)
	for _, secret := range append(edgeSecrets(), m.secrets(200)...) {
		expectKey(t, secret, plainKey(secret))
		for _, text := range []string{"", "a", "m", m.text()} {
			expectSign(t, secret, text, plainSign(secret, text))
		}
	}
	for _, text := range append(edgeTexts(), strings.Repeat("x", 1<<20)) {
		secret := m.secret()
		expectSign(t, secret, text, plainSign(secret, text))
	}
}

// P12.1: a number below 1, or above Order - 1, is no secret, whatever the text.
func TestNoSecrets(t *testing.T) {
	m := mixer(4)
	l := noSecrets()
	for range 200 {
		l = append(l, order+m.next()%(greatest-order))
	}
	for _, n := range l {
		got, e := sign.Key(n)
		expectError(t, "Key", got, e, api.ErrArg, n)
		for _, text := range []string{"", "a", "m", infBytes, strings.Repeat("x", 1000)} {
			got, e := sign.Sign(n, text)
			expectError(t, "Sign", got, e, api.ErrArg, []any{n, text})
		}
	}
}
