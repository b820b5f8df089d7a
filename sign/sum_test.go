package sign_test

import (
	"slices"
	"testing"

	"pharos/api"
	"pharos/sign"
)

// keysOf are the keys of secrets; a secret 0 has Inf's bytes.
func keysOf(secrets ...uint64) []string {
	var l []string
	for _, n := range secrets {
		l = append(l, plainKey(n))
	}
	return l
}

// P12.2: sums, written out: of none, of one, of both, of a point and its negative, with Inf's bytes.
func TestSumsWrittenOut(t *testing.T) {
	one, two, three, five := "\x03\x6e\x0a\x45\x64", "\x03\x50\x7f\x77\x13", "\x03\x7e\x0b\x66\x9d", "\x02\x21\xb0\x62\x4b"
	opposite := "\x02\x6e\x0a\x45\x64"
	for _, c := range []struct {
		name   string
		points []string
		want   string
	}{
		{"of none", nil, infBytes},
		{"of none, not nil", []string{}, infBytes},
		{"of none, with room", make([]string, 0, 9), infBytes},
		{"of one", []string{one}, one},
		{"of another one", []string{five}, five},
		{"of Inf", []string{infBytes}, infBytes},
		{"of Inf, three times", []string{infBytes, infBytes, infBytes}, infBytes},
		{"of two", []string{two, three}, five},
		{"of one, twice", []string{one, one}, two},
		{"of one, five times", []string{one, one, one, one, one}, five},
		{"of a point and its negative", []string{one, opposite}, infBytes},
		{"of these, the other way round", []string{opposite, one}, infBytes},
		{"of these, and one more", []string{opposite, one, five}, five},
		{"of these, with one between", []string{opposite, five, one}, five},
		{"with Inf ahead", []string{infBytes, two, three}, five},
		{"with Inf between", []string{two, infBytes, three}, five},
		{"with Inf behind", []string{two, three, infBytes}, five},
		{"with a sum so far that is the next one's negative", []string{two, three, opposite, opposite, opposite, opposite, opposite}, infBytes},
	} {
		t.Run(c.name, func(t *testing.T) { expectSum(t, c.points, c.want) })
	}
}

// P12.2: the sum of the points of the group at the edges, two by two, three by three.
func TestSums(t *testing.T) {
	few := []uint64{0, 1, 2, 3, order / 2, order/2 + 1, order - 2, order - 1}
	for _, a := range few {
		expectSum(t, keysOf(a), plainKey(a))
		for _, b := range few {
			expectSum(t, keysOf(a, b), plainKey((a+b)%order))
			for _, c := range few {
				expectSum(t, keysOf(a, b, c), plainKey((a+b+c)%order))
			}
		}
	}
}

// P12.2: sums of longer and longer lists, of keys and of signatures.
func TestLongSums(t *testing.T) {
	m := mixer(5)
	var keys, sigs []string
	both, signed := inf, inf
	point, _ := plainHash("a")
	for range 200 {
		secret := m.secret()
		keys, sigs = append(keys, plainKey(secret)), append(sigs, plainSign(secret, "a"))
		both, signed = plainAdd(both, plainTimes(secret, generator)), plainAdd(signed, plainTimes(secret, point))
		expectSum(t, keys, plainBytes(both))
		expectSum(t, sigs, plainBytes(signed))
	}
}

// P12.2: a sum does not hang on the order, nor on how a list is parted.
func TestSumsInAnyOrder(t *testing.T) {
	m := mixer(6)
	for range 40 {
		l := keysOf(m.secrets(int(2 + m.next()%15))...)
		want, e := sign.Sum(l)
		if e != api.OK {
			t.Fatalf("Sum: error %d", e)
		}
		cut := int(m.next() % uint64(len(l)))
		ahead, _ := sign.Sum(l[:cut])
		behind, _ := sign.Sum(l[cut:])
		expectSum(t, []string{ahead, behind}, want)
		expectSum(t, append([]string{ahead}, l[cut:]...), want)
		slices.Reverse(l)
		expectSum(t, l, want)
		slices.Sort(l)
		expectSum(t, l, want)
	}
}

// P12.2: there is no sum, if a text at any place is no point's bytes, or all are.
func TestNoSums(t *testing.T) {
	for _, wrong := range noPoints() {
		for _, l := range [][]string{nil, keysOf(1), keysOf(1, 2), keysOf(0, 1, order-1), keysOf(5, 6, 7, 8)} {
			for place := range len(l) + 1 {
				expectNoSum(t, slices.Insert(slices.Clone(l), place, wrong))
			}
		}
		expectNoSum(t, []string{wrong, wrong})
		expectNoSum(t, []string{infBytes, wrong})
		expectNoSum(t, []string{wrong, infBytes})
	}
	expectNoSum(t, noPoints())
}

// P12.2: texts of many X that stand beside each other: those of the group alone have a sum.
func TestSumOfOne(t *testing.T) {
	read := 0
	for x := range uint64(300) {
		for _, first := range []byte{2, 3} {
			s := text5(first, x)
			if p, there := plainWith(x); there && plainTimes(order, p) == inf {
				expectSum(t, []string{s}, s)
				read++
			} else {
				expectNoSum(t, []string{s})
			}
		}
	}
	if read < 50 {
		t.Errorf("%d of the group", read)
	}
}

// R3: what is handed in is not written into, nor its spare room.
func TestSumLeavesItsList(t *testing.T) {
	room := keysOf(1, 2, 3, 4, 5, 6)
	was := slices.Clone(room)
	sign.Sum(room[:3])
	sign.All(room[:3], "a", plainSign(6, "a"))
	sign.Sum(append(room[:2:2], "x"))
	if !slices.Equal(room, was) {
		t.Errorf("%x, which were %x", hexes(room), hexes(was))
	}
}
