package mint_test

import (
	"fmt"
	"slices"
	"testing"

	"pharos/api"
	"pharos/mint"
	"pharos/sign"
)

// lists are ones of 16 secrets: in order, back, at both ends, some of them the same, all of them, and such as are Inf together.
func lists() map[string][]uint64 {
	back := secrets(order - 16)
	slices.Reverse(back)
	return map[string][]uint64{
		"the least":         secrets(1),
		"the greatest":      back,
		"the greatest last": with(secrets(1), 15, order-1),
		"here and there":    {5, 1 << 20, 3, 99999, order / 2, 7, order - 3, 2, 11, 1 << 28, 13, 12, 1000, 6, 1 << 16, 4},
		"two the same":      with(secrets(1), 9, 2),
		"two side by side":  with(secrets(1), 1, 1),
		"all the same":      slices.Repeat([]uint64{77}, 16),
		"Inf together":      slices.Repeat([]uint64{1, order - 1}, 8),
		"Inf on the way":    append(slices.Repeat([]uint64{order - 5, 5}, 7), 3, 4),
	}
}

// P15.1: the keys of 16 secrets, in their order, and the keys' sum.
func TestCommittee(t *testing.T) {
	for name, l := range lists() {
		expectCommittee(t, name, l)
		c, _ := mint.Committee(l)
		for i, key := range c.Keys {
			if own, _ := sign.Key(l[i]); key != own {
				t.Errorf("%s: the key %d is %x, not %x", name, i, key, own)
			}
		}
		if sum, _ := sign.Sum(c.Keys); c.Sum != sum || len(c.Keys) != api.Members {
			t.Errorf("%s: the sum of %d keys is %x, not %x", name, len(c.Keys), c.Sum, sum)
		}
	}
}

// P15.1: another order is another committee, with the same sum.
func TestCommitteeOrder(t *testing.T) {
	l := secrets(100)
	c, _ := mint.Committee(l)
	slices.Reverse(l)
	back, _ := mint.Committee(l)
	if slices.Equal(c.Keys, back.Keys) || c.Sum != back.Sum {
		t.Errorf("two orders: %x and %x", c, back)
	}
	slices.Reverse(back.Keys)
	if !slices.Equal(c.Keys, back.Keys) {
		t.Errorf("the keys do not stand in the order of their secrets: %x and %x", c.Keys, back.Keys)
	}
}

// P15.1: fewer secrets than 16, or more, are refused.
func TestCommitteeSizes(t *testing.T) {
	many := append(secrets(1), secrets(17)...)
	for size := range len(many) + 1 {
		if size != 16 {
			expectNoCommittee(t, fmt.Sprint(size, " secrets"), many[:size:size])
		}
	}
	expectNoCommittee(t, "nil", nil)
	expectNoCommittee(t, "256 secrets", slices.Repeat([]uint64{3}, 256))
}

// P15.1: a number that is no secret is refused, wherever it stands.
func TestCommitteeOfNoSecrets(t *testing.T) {
	for _, n := range noSecrets {
		for at := range api.Members {
			expectNoCommittee(t, fmt.Sprint(n, " at ", at), with(secrets(1), at, n))
		}
		expectNoCommittee(t, fmt.Sprint(n, " alone"), slices.Repeat([]uint64{n}, 16))
		expectNoCommittee(t, fmt.Sprint(n, " and 15 secrets less"), []uint64{n})
		expectNoCommittee(t, fmt.Sprint(n, " beside 16"), append(secrets(1), n))
	}
	for _, n := range []uint64{1, 2, order - 2, order - 1} {
		expectCommittee(t, fmt.Sprint(n, " first"), with(secrets(50), 0, n))
		expectCommittee(t, fmt.Sprint(n, " last"), with(secrets(50), 15, n))
	}
}
