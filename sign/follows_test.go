package sign_test

import (
	"testing"

	"pharos/api"
	"pharos/curve"
	"pharos/sign"
)

// P12.3: a text's point is not Inf, but one of the group, of X and Y below the prime.
func TestNotInf(t *testing.T) {
	m := mixer(12)
	l := edgeTexts()
	for range 3000 {
		l = append(l, m.text())
	}
	for _, text := range l {
		p := sign.Hash(text)
		if p.Inf || p == (api.Point{}) || !curve.InGroup(p) {
			t.Fatalf("Hash of %.60q: %v", text, p)
		}
	}
}

// P12.3: what holds of one key holds of that key alone in a list, and what does not does not.
func TestOneAlone(t *testing.T) {
	m := mixer(13)
	texts := append(noPoints(), infBytes, "")
	for _, secret := range append(edgeSecrets(), m.secrets(20)...) {
		texts = append(texts, plainKey(secret), plainSign(secret, "a"))
	}
	held := 0
	for _, key := range texts {
		for _, sig := range texts {
			one := sign.Verify(key, "a", sig)
			expectAll(t, []string{key}, "a", sig, one)
			if one {
				held++
			}
		}
	}
	if held < 36 {
		t.Errorf("%d hold", held)
	}
}

// What follows from the chapter's words: the Sum of keys is the key of the sum of the secrets, that of signatures its signature, and what holds of all holds of the Sum.
func TestSumsOfSecrets(t *testing.T) {
	m := mixer(14)
	for range 60 {
		text, all := m.text(), uint64(0)
		var keys, sigs []string
		for _, secret := range m.secrets(int(1 + m.next()%16)) {
			key, _ := sign.Key(secret)
			sig, _ := sign.Sign(secret, text)
			keys, sigs, all = append(keys, key), append(sigs, sig), (all+secret)%order
		}
		key, _ := sign.Key(all)
		sig, _ := sign.Sign(all, text)
		expectSum(t, keys, key)
		expectSum(t, sigs, sig)
		expectAll(t, keys, text, sig, true)
		expectVerify(t, key, text, sig, true)
	}
}

// R4: what is answered hangs on what is given alone, not on what was asked ahead.
func TestAgain(t *testing.T) {
	keys, sig := keysOf(2, 3), signedBy("a", 2, 3)
	for range 3 {
		expectAll(t, keys, "a", sig, true)
		expectAll(t, keys, "b", sig, false)
		expectNoSum(t, []string{"x"})
		expectSum(t, keys, plainKey(5))
		expectVerify(t, plainKey(5), "a", sig, true)
		expectVerify(t, plainKey(6), "a", sig, false)
	}
}
