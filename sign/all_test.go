package sign_test

import (
	"slices"
	"testing"

	"pharos/api"
	"pharos/sign"
)

// signedBy is the sum of the signatures of secrets, each one's made by itself.
func signedBy(text string, secrets ...uint64) string {
	sum := inf
	point, _ := plainHash(text)
	for _, n := range secrets {
		sum = plainAdd(sum, plainTimes(n, point))
	}
	return plainBytes(sum)
}

// sumOfKeys is that of the secrets' keys.
func sumOfKeys(secrets ...uint64) string {
	sum := inf
	for _, n := range secrets {
		sum = plainAdd(sum, plainTimes(n, generator))
	}
	return plainBytes(sum)
}

// P12.2: the chapter's example.
func TestAllExample(t *testing.T) {
	var keys, sigs []string
	for _, secret := range []uint64{2, 3} {
		key, e := sign.Key(secret)
		sig, f := sign.Sign(secret, "a")
		if e != api.OK || f != api.OK {
			t.Fatalf("errors %d, %d", e, f)
		}
		keys, sigs = append(keys, key), append(sigs, sig)
	}
	both, e := sign.Sum(sigs)
	if e != api.OK {
		t.Fatalf("error %d", e)
	}
	expectAll(t, keys, "a", both, true)
	expectVerify(t, plainKey(5), "a", both, true)
}

// P12.2: signatures of keys, by their secrets: whose they are, and others.
func TestAllEdges(t *testing.T) {
	for _, c := range []struct {
		name         string
		keys, signed []uint64
		want         bool
	}{
		{"one", []uint64{5}, []uint64{5}, true},
		{"two", []uint64{2, 3}, []uint64{2, 3}, true},
		{"two, the other way round", []uint64{3, 2}, []uint64{2, 3}, true},
		{"others with the same sum", []uint64{1, 4}, []uint64{2, 3}, true},
		{"the same key twice, signed twice", []uint64{7, 7}, []uint64{7, 7}, true},
		{"the same key twice, signed once", []uint64{7, 7}, []uint64{7}, false},
		{"one key, signed twice", []uint64{7}, []uint64{7, 7}, false},
		{"the same key three times, and another", []uint64{7, 7, 9, 7}, []uint64{9, 7, 7, 7}, true},
		{"one key too many", []uint64{2, 3, 4}, []uint64{2, 3}, false},
		{"one key too few", []uint64{2, 3}, []uint64{2, 3, 4}, false},
		{"another key", []uint64{2, 4}, []uint64{2, 3}, false},
		{"no signature", []uint64{2, 3}, nil, false},
		{"no keys", nil, []uint64{2, 3}, false},
		{"neither", nil, nil, false},
		{"a sum of Inf, and a signature of it", []uint64{5, order - 5}, []uint64{5, order - 5}, false},
		{"a sum of Inf, of three", []uint64{5, 6, order - 11}, nil, false},
		{"a sum of Inf, and a signature of one", []uint64{5, order - 5}, []uint64{5}, false},
		{"a sum that is Inf on its way", []uint64{5, order - 5, 8}, []uint64{8}, true},
		{"a sum that is Inf on its way, signed by all", []uint64{5, order - 5, 8}, []uint64{5, order - 5, 8}, true},
		{"the last secret", []uint64{order - 1}, []uint64{order - 1}, true},
		{"the last secret, twice", []uint64{order - 1, order - 1}, []uint64{order - 2}, true},
	} {
		t.Run(c.name, func(t *testing.T) {
			for _, text := range []string{"a", "", "m", "876699657"} {
				expectAll(t, keysOf(c.keys...), text, signedBy(text, c.signed...), c.want)
				expectAll(t, keysOf(c.keys...), text+"!", signedBy(text, c.signed...), false)
			}
		})
	}
}

// P12.2: without keys nothing holds, whatever the signature.
func TestAllNoKeys(t *testing.T) {
	for _, sig := range append(noPoints(), infBytes, plainSign(1, "a"), plainSign(order-1, "a"), plainKey(1)) {
		for _, keys := range [][]string{nil, {}, make([]string, 0, 3)} {
			expectAll(t, keys, "a", sig, false)
			expectAll(t, keys, "", sig, false)
		}
	}
}

// P12.2: with Inf's bytes at any place among the keys nothing holds, though their Sum is the same.
func TestAllWithInf(t *testing.T) {
	for _, secrets := range [][]uint64{nil, {5}, {2, 3}, {5, order - 5}, {5, order - 5, 8}, {7, 7, 9, 1}} {
		keys := keysOf(secrets...)
		sig := signedBy("a", secrets...)
		for place := range len(keys) + 1 {
			with := slices.Insert(slices.Clone(keys), place, infBytes)
			if sum, _ := sign.Sum(with); sum != sumOfKeys(secrets...) {
				t.Fatalf("Sum of %x: %x", hexes(with), sum)
			}
			expectAll(t, with, "a", sig, false)
			expectAll(t, with, "a", infBytes, false)
		}
	}
	expectAll(t, []string{infBytes, infBytes}, "a", infBytes, false)
}

// P12.2: nothing holds, if a key at any place is no point's bytes, or the signature is.
func TestAllNoPoints(t *testing.T) {
	for _, wrong := range noPoints() {
		for _, secrets := range [][]uint64{nil, {5}, {2, 3}, {7, 7, 9}} {
			keys, sig := keysOf(secrets...), signedBy("a", secrets...)
			for place := range len(keys) + 1 {
				expectAll(t, slices.Insert(slices.Clone(keys), place, wrong), "a", sig, false)
			}
			expectAll(t, keys, "a", wrong, false)
		}
		expectAll(t, []string{wrong, wrong}, "a", infBytes, false)
		expectAll(t, []string{wrong}, "a", wrong, false)
	}
}

// P12.2: keys with points outside the group whose sum is again of the group are none.
func TestAllOutside(t *testing.T) {
	a, b := plainTimes(2, generator), plainTimes(3, generator)
	for _, more := range noMembers() {
		keys := []string{plainBytes(plainAdd(a, more)), plainBytes(plainAdd(b, plainNeg(more)))}
		expectAll(t, keys, "a", signedBy("a", 2, 3), false)
	}
	expectAll(t, []string{plainBytes(a), plainBytes(b)}, "a", signedBy("a", 2, 3), true)
}

// P12.2: committees of many sizes: all must be told, none left out, and none told twice.
func TestAll(t *testing.T) {
	m := mixer(11)
	for _, many := range []int{1, 2, 3, 10, 11, 16, 40} {
		secrets, text := m.secrets(many), m.text()
		keys, sig := keysOf(secrets...), signedBy(text, secrets...)
		expectAll(t, keys, text, sig, true)
		expectAll(t, keys, text+"x", sig, false)
		expectAll(t, append(slices.Clone(keys), plainKey(m.secret())), text, sig, false)
		for n := range keys {
			expectAll(t, slices.Delete(slices.Clone(keys), n, n+1), text, sig, false)
			expectAll(t, append(slices.Clone(keys), keys[n]), text, sig, false)
			expectAll(t, keys, text, signedBy(text, slices.Delete(slices.Clone(secrets), n, n+1)...), false)
		}
		slices.Reverse(keys)
		expectAll(t, keys, text, sig, true)
	}
}
