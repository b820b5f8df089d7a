package mint_test

import (
	"fmt"
	"slices"
	"testing"

	"pharos/api"
	"pharos/head"
	"pharos/mint"
	"pharos/sha"
)

// The answers here were reckoned apart from the project.

// counted is a root of bytes that count up from one.
func counted(from byte) string {
	var b [32]byte
	for i := range b {
		b[i] = from + byte(i)
	}
	return string(b[:])
}

// P15.1: committees that are written out.
func TestWrittenCommittees(t *testing.T) {
	back := secrets(order - 16)
	slices.Reverse(back)
	for _, want := range []struct {
		secrets                []uint64
		first, last, sum, root string
	}{
		{secrets(1), "036e0a4564", "022ff97cce", "020269a4ef", "4e9dc51a4a1efe446979cc220a37fec96e819319a1bd9e3361cff3e242abb126"},
		{back, "026e0a4564", "032ff97cce", "030269a4ef", "3f0f82d92401fb106bb9295521a0772cfda8b0f99ac7a1479a34ab3ef662ca46"},
		{slices.Repeat([]uint64{7}, 16), "023f9d5ed8", "023f9d5ed8", "0273a1560d", "78f9570b28c73f391e927de01365050bc4ab05df2283222d9daf3d685f4c5bb1"},
		{slices.Repeat([]uint64{1, order - 1}, 8), "036e0a4564", "026e0a4564", "0000000000", "1b4ae563f6545096a687973f48063627ff9b376819adc915e785b390b8911acc"},
	} {
		c, e := mint.Committee(want.secrets)
		root, _ := head.CommitteeRoot(c)
		got := fmt.Sprintf("%x %x %x %x", c.Keys[0], c.Keys[15], c.Sum, root)
		if e != api.OK || got != fmt.Sprint(want.first, " ", want.last, " ", want.sum, " ", want.root) {
			t.Errorf("%d: error %d, %s", want.secrets, e, got)
		}
	}
}

// P15.1: Lights that are written out.
func TestWrittenLights(t *testing.T) {
	for _, want := range []struct {
		slot               uint64
		body, branch, root string
	}{
		{0, "8527008b73d735cda94c8684f274e7788f9f2aacb6380dd00221dae630cb2eaf", "f5a5fd42d16a20302798ef6ed309979b43003d2320d9f0e8ea9831a92759fb4b", "a5862f78e5901dbbdfd37671df90624df4255520cf3453fc1793533e15657277"},
		{3, "de8aa6c5284692c8c789c3663eb785e5248762cc3d2a527c0f213ab970fd3306", "e7b4bb67551dde9589c1553dfda37a942a18caf184f9cc1629d25cf5c60be416", "1dca95961c68499fe4a344f4ee736311f68814b0f1748f5f7fcefe101d2a4d08"},
		{15, "8b4a2431ce49c7f47aa55e36acbf18b00a0325248ea66e376ff51da0941c0c0b", "baddf50e87d06e4835b4d5ee88e764eada391c3ad0c0aae75424f2e782755ce1", "27ea222abd1e342f6c25670aeec3c04cdd92b0c9c338396b8b60e09a6b2c56a7"},
		{16, "c79d3d3227935b0ccaf9c2c89d3c26b13aae1fff71dad33604dfe98a93628ac7", "94c41af484fff7964969e0bdd922f82dff0f4be87a60d0664cc9d1ffd3acd650", "b481b58956aac5e096183e9a8148d332219f478d4559f98f7c09fed618c7b354"},
		{greatest, "43c2bcad9583b47f517a6c78d9b761de4437604617948c96cd45a68f03a9e3f9", "59a751e5d7d17ee0f3eebab3ef17512aca150acc6f59173d6e217cccced5f0d4", "3b7437cfb72887135c9db8eacaafac2ec8541d1b67e7b468d41ec423176767cf"},
	} {
		l, e := mint.Light(want.slot, counted(0), counted(100), counted(100))
		root, _ := head.Root(l.Beacon)
		got := fmt.Sprintf("%x %x %x %x", l.Beacon.Body, l.Branch[0], l.Branch[1], root)
		if e != api.OK || got != fmt.Sprintf("%s %x %s %s", want.body, zeros, want.branch, want.root) {
			t.Errorf("slot %d: error %d, %s", want.slot, e, got)
		}
	}
}

// P15.2: the root of Boots, and the sum of their bytes, written out.
func TestWrittenBoots(t *testing.T) {
	for _, want := range []struct {
		slot      uint64
		root, sum string
	}{
		{0, "0bab82bad5b94cb61b9d9c1ce7e30e28f371d3f1f239ee318d838eb7c8646afd", "3df959da28a5371de5c4f964c501091f7c9545ae7625f4044f0681104f277684"},
		{5, "8f9e7dbaf76a35367074508181fc2d9317fccb87ad9370244b5af04b22c15927", "b73e4f6548132784a4f1724c4334da30424515b1b506024359c1d6fa338ce41c"},
		{greatest, "8a19bfc154ce9cdd46c786f329abcebc77ba32dcb3257929942741fab3a24b3d", "fbfa82b158fec115c64ea9a5d3c3422488886cd66684cbf4220279ee7719102b"},
	} {
		root, b, e := mint.Boot(want.slot, secrets(1), counted(0), counted(100))
		bytes, _ := head.BootBytes(b)
		if got := sha.Hex(root); e != api.OK || got != want.root || sha.Hex(sha.Sum(bytes)) != want.sum {
			t.Errorf("slot %d: error %d, %s, and a Boot of the sum %x", want.slot, e, got, sha.Sum(bytes))
		}
	}
}

// P15.2: the signature of updates, and the sum of their bytes, written out.
func TestWrittenUpdates(t *testing.T) {
	for _, want := range []struct {
		seen, slot, final uint64
		next              []uint64
		bits              uint64
		sig, sum          string
	}{
		{9, 10, 0, nil, 1, "022706ceea", "b78badfa73a8f56d836c71a084099dcb54791ce76008e177de64556b649aef44"},
		{9, 10, 7, nil, everyone, "027fa3a54c", "63a3182ce35d3d5cd94c10a4dce1e512e996ac933bf0a52d7bce5e305bf07dd2"},
		{9, 10, 0, secrets(21), 2047, "0330aaa2aa", "d2a6fa57e34cd06458fd7fbcf9f8105c90d0540517ac7b8873b1f87daada80c2"},
		{9, 10, 7, secrets(21), 10, "03569bc22d", "e65bb161194b9aba70ee0d2a7fe0edad60cfe2e26675e22ba53deed18259596f"},
		{0, 0, 0, nil, 0, "0000000000", "fc574572b967fec9469dec6abd43eaa7859c7324be090f57656cd4e83597a5cd"},
		{0, 0, 0, nil, 3, "0247f408c4", "e2051f82ed92680e03133d9c72a80539d989b9d9d9bd566937abaaa6f89d948f"},
		{greatest, greatest, greatest, secrets(1), greatest, "033a2bbb11", "e476e75b4248571c752554eab9fb21c7fbc26f2f0dd04c9c0bad3381de126fa1"},
		{130, 129, 5, nil, everyone, "030b7ed3c6", "ced2318898343ca6fd6f123bdff9a02d0b98e5f2e116ba3a58a3da30611cd4ef"},
		{1, 128, 0, nil, 1, "03709cd7f3", "06478fb3a5ef3e96634603a3f89e11e6720541cbd61d9a26d0b9804ba75ed6c2"},
		{1, 256, 0, nil, 1, "022627be30", "a254c8cc90118ba6590726add1f27d92ef67dca09b87d6f0aa75bfb3d5a7d569"},
		{1, 257, 0, nil, 1, "030cddc028", "37941639f5f24b9d1d6dc685a7599a3d752ba5f42cdd28ebf4a617481ae02e3a"},
		{1, 385, 0, nil, 1, "030cddc028", "51c3c0c8f15773406839fa0b3cd2cb69917c06ac61ae652bb7a2df7983ef427d"},
	} {
		p := api.Plan{Seen: want.seen, Slot: want.slot, Final: want.final, Now: secrets(1), Next: want.next, Bits: want.bits, Accounts: counted(0), Receipts: counted(100)}
		u, e := mint.Update(p)
		bytes, _ := head.Bytes(u)
		if got := sha.Hex(u.Sig); e != api.OK || got != want.sig || sha.Hex(sha.Sum(bytes)) != want.sum {
			t.Errorf("seen %d, slot %d, bits %x: error %d, %s, and an update of the sum %x", want.seen, want.slot, want.bits, e, got, sha.Sum(bytes))
		}
	}
}
