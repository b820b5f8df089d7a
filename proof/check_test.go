package proof_test

import (
	"fmt"
	"slices"
	"strings"
	"testing"

	"pharos/keccak"
)

// P7.1: the chapter's examples.
func TestExamples(t *testing.T) {
	l := animals()
	root := rootOf(t, l)
	if root[:4] != "\x59\x91\xbb\x8c" {
		t.Errorf("the root is %s", short(root))
	}
	dog, cat := wayOf(t, l, "dog"), wayOf(t, l, "cat")
	expect(t, "dog", root, "dog", dog, value("puppy"))
	expect(t, "cat", root, "cat", cat, nothing)
	for _, more := range []string{"", "x", dog[0], dog[len(dog)-1]} {
		expect(t, "one text more", root, "dog", append(slices.Clone(dog), more), noProof)
		expect(t, "one text more", root, "cat", append(slices.Clone(cat), more), noProof)
	}
}

// P7.1, P7.2: roots that are too short or too long, beside texts that would prove something.
func TestRoots(t *testing.T) {
	l := animals()
	root := rootOf(t, l)
	none := keccak.Sum("\x80")
	for _, key := range []string{"dog", "cat", "", made(65)} {
		way := wayOf(t, l, key)
		for _, other := range []string{"", root[:1], root[:31], root[1:], root + "\x00", "\x00" + root, root + root, made(1 << 16)} {
			expect(t, "a wrong root", other, key, way, wrongArg)
			expect(t, "a wrong root", other, key, nil, wrongArg)
		}
		for _, other := range []string{none[:31], none + "\x00", "\x80", ""} {
			expect(t, "a wrong root of none", other, key, nil, wrongArg)
		}
	}
	for _, other := range []string{made(32), keccak.Sum(""), none, root[1:] + root[:1]} {
		expect(t, "another root", other, "dog", wayOf(t, l, "dog"), noProof)
	}
}

// P7.1: how long keys may be: of a leaf that has the whole path, of one that has another, and with no texts.
func TestKeys(t *testing.T) {
	for _, size := range []int{0, 1, 2, 32, 63, 64, 65, 66, 128, 1000} {
		key := made(size)
		digits := fmt.Sprintf("%x", key)
		one := leaf(digits, "val")
		there, absent, empty := value("val"), nothing, nothing
		if size == 0 || size > 64 {
			there, absent, empty = wrongArg, wrongArg, wrongArg
		}
		expect(t, "its leaf", keccak.Sum(one), key, []string{one}, there)
		for _, other := range []string{digits + "0", "0" + digits, strings.TrimPrefix(digits+"f", digits[:min(1, size)])} {
			other := leaf(other, "val")
			expect(t, "another leaf", keccak.Sum(other), key, []string{other}, absent)
		}
		expect(t, "no texts", keccak.Sum("\x80"), key, nil, empty)
	}
}

// P7.1: no texts prove that nothing is there, under the root of no pairs alone; and that has no others.
func TestNoTexts(t *testing.T) {
	none := keccak.Sum("\x80")
	for _, key := range []string{"a", "dog", made(64), "\x80"} {
		for _, texts := range [][]string{nil, {}, make([]string, 0, 3)} {
			expect(t, "no texts", none, key, texts, nothing)
			for _, other := range []string{rootOf(t, animals()), made(32), keccak.Sum(""), keccak.Sum("\xc0"), strings.Repeat("\x00", 32)} {
				expect(t, "no texts, another root", other, key, texts, noProof)
			}
		}
		for _, texts := range [][]string{{"\x80"}, {""}, {"\x80", "\x80"}, {"\xc0"}, wayOf(t, animals(), key)} {
			expect(t, "texts under the root of none", none, key, texts, noProof)
		}
	}
}

// chained are so many node texts, each referring to the next one by a digest, along the digits of key and on beyond them; the last one is a leaf of what is left of them.
func chained(key string, count int) (string, []string) {
	digits := fmt.Sprintf("%x", key) + strings.Repeat("0", 200)
	behind := ""
	if count <= 2*len(key) {
		behind = digits[count-1 : 2*len(key)]
	}
	texts := []string{leaf(behind, "the end")}
	for at := count - 2; at >= 0; at-- {
		var half int
		fmt.Sscanf(digits[at:at+1], "%x", &half)
		// Bridges of one half byte and forks by turns.
		node := bridge(digits[at:at+1], digest(texts[0]))
		if at%2 == 0 {
			node = fork("", below{half: digest(texts[0])})
		}
		texts = slices.Insert(texts, 0, node)
	}
	return keccak.Sum(texts[0]), texts
}

// P7.1, P7.2: how many texts there may be. A path has at most 128 half bytes, so more than 129 are never all asked for.
func TestHowManyTexts(t *testing.T) {
	key := made(64)
	for _, count := range []int{1, 2, 3, 64, 128, 129} {
		root, texts := chained(key, count)
		expect(t, "a chain", root, key, texts, value("the end"))
		expect(t, "a chain, one too few", root, key, texts[:count-1], noProof)
		expect(t, "a chain, one more", root, key, append(texts, texts[0]), noProof)
	}
	for _, count := range []int{130, 139, 140} {
		root, texts := chained(key, count)
		expect(t, "a chain beyond the key", root, key, texts, noProof)
		expectTold(t, root, texts, count)
	}
	for _, count := range []int{141, 142, 150, 1000} {
		root, texts := chained(key, 141)
		for len(texts) < count {
			texts = append(texts, "")
		}
		expect(t, "too many", root, key, texts, wrongArg)
		expect(t, "too many, of nothing", keccak.Sum("\x80"), key, make([]string, count), wrongArg)
	}
	expect(t, "140 of nothing", keccak.Sum("\x80"), key, make([]string, 140), noProof)
	expect(t, "140, the first one asked for", rootOf(t, pairs("a", "x")), "a", append(wayOf(t, pairs("a", "x"), "a"), make([]string, 139)...), noProof)
}

// greatLeaf is a leaf's bytes, so many, above 60000.
func greatLeaf(digits string, size int) (string, string) {
	val := made(size - len(leaf(digits, made(60000))) + 60000)
	return leaf(digits, val), val
}

// P7.1, P7.2: how long texts may be, wherever they stand.
func TestHowLong(t *testing.T) {
	for _, size := range []int{65534, 65535, 65536, 65537, 65538} {
		great, val := greatLeaf("12", size)
		if len(great) != size {
			t.Fatalf("the leaf has %d bytes, not %d", len(great), size)
		}
		there, absent, refused := value(val), nothing, noProof
		if size > 65536 {
			there, absent, refused = wrongArg, wrongArg, wrongArg
		}
		expect(t, "great", keccak.Sum(great), "\x12", []string{great}, there)
		expect(t, "great", keccak.Sum(great), "\x13", []string{great}, absent)
		expect(t, "great, of another root", made(32), "\x12", []string{great}, refused)
		top := bridge("ab", digest(great))
		expect(t, "great, behind another", keccak.Sum(top), "\xab\x12", []string{top, great}, there)
		expect(t, "great, not asked for", keccak.Sum(top), "\xac\x12", []string{top, great}, refused)
		small := leaf("12", "v")
		for at := range 4 {
			texts := slices.Insert([]string{small, "x", "y"}, at, great)
			expect(t, "great among others", keccak.Sum(small), "\x12", texts, refused)
		}
		expect(t, "no node, great", keccak.Sum(made(size)), "\x12", []string{made(size)}, refused)
	}
	expect(t, "very great", made(32), "\x12", []string{made(1 << 24)}, wrongArg)
	expect(t, "wrong in all", "", "", slices.Repeat([]string{made(65537)}, 141), wrongArg)
}

// P7.1: ways with a text too few, one more, two exchanged, one with another byte, each wherever it may be.
func TestChangedWays(t *testing.T) {
	longest := 0
	for _, x := range sets() {
		root := rootOf(t, x.pairs)
		for _, key := range some(keysNear(x.pairs), 4) {
			way := wayOf(t, x.pairs, key)
			longest = max(longest, len(way))
			for at := range len(way) + 1 {
				if at > 2 && at < len(way)-2 {
					continue
				}
				changedAt(t, x.name, root, key, way, at)
			}
		}
	}
	if longest < 60 {
		t.Errorf("the longest way had %d texts", longest)
	}
}

// changedAt changes a way at one place, of all those behind its last text, too.
func changedAt(t *testing.T, name, root, key string, way []string, at int) {
	t.Helper()
	for _, more := range []string{"", "x", "\x80", "\xc0", leaf("12", "v"), way0(way), slices.Concat(way, []string{"y"})[at]} {
		expect(t, name+", one more", root, key, slices.Insert(slices.Clone(way), at, more), noProof)
	}
	if at == len(way) {
		return
	}
	expect(t, name+", one too few", root, key, slices.Delete(slices.Clone(way), at, at+1), noProof)
	expect(t, name+", all behind too few", root, key, way[:at], noProof)
	for other := range at {
		exchanged := slices.Clone(way)
		exchanged[at], exchanged[other] = exchanged[other], exchanged[at]
		expect(t, name+", exchanged", root, key, exchanged, noProof)
	}
	with := func(s string) {
		other := slices.Clone(way)
		other[at] = s
		expect(t, name+", another text", root, key, other, noProof)
	}
	size := len(way[at])
	for place := 0; place < size; place += 1 + size*len(way)/50 {
		for _, bits := range []byte{1, 0x80, 0xff} {
			with(changed(way[at], place, bits))
		}
	}
	with("")
	with(way[at][:size-1])
	with(way[at][1:])
	with(way[at] + "\x00")
	with("\x00" + way[at])
}

// way0 is a way's first text, if there is one.
func way0(way []string) string {
	return strings.Join(way[:min(1, len(way))], "")
}

// changed is s with bits of one byte turned.
func changed(s string, at int, bits byte) string {
	b := []byte(s)
	b[at] ^= bits
	return string(b)
}

// P7.1: keys that are there, that part, end too early, go on too long, at nodes of each kind, that stand within others or not.
func TestWhereKeysEnd(t *testing.T) {
	lower := fork("at the list", below{0: leaf("", "at its end"), 2: leaf("345", "behind it")})
	bare := fork("", below{3: leaf("45", "below")})
	for _, reference := range []func(string) (string, []string){
		func(node string) (string, []string) { return node, nil },
		func(node string) (string, []string) { return digest(node), []string{node} },
	} {
		toLower, lowerTexts := reference(lower)
		toBare, bareTexts := reference(bare)
		middle := bridge("567", toLower)
		toMiddle, middleTexts := reference(middle)
		top := fork("", below{1: toMiddle, 15: toBare})
		root := keccak.Sum(top)
		ask := func(digits string, want answer, behind ...[]string) {
			t.Helper()
			texts := []string{top}
			for _, more := range behind {
				texts = append(texts, more...)
			}
			expect(t, digits, root, unhex(digits), texts, want)
		}
		ask("1567", value("at the list"), middleTexts, lowerTexts)
		ask("156723", nothing, middleTexts, lowerTexts)
		ask("15672345", value("behind it"), middleTexts, lowerTexts)
		ask("15672344", nothing, middleTexts, lowerTexts)
		ask("1567234500", nothing, middleTexts, lowerTexts)
		ask("15670000", nothing, middleTexts, lowerTexts)
		ask("156710", nothing, middleTexts, lowerTexts)
		ask("15", nothing, middleTexts)
		ask("1566", nothing, middleTexts)
		ask("1667", nothing, middleTexts)
		ask("25", nothing)
		ask("00", nothing)
		ask("f3", nothing, bareTexts)
		ask("f034", nothing, bareTexts)
		ask("f345", value("below"), bareTexts)
		ask("f34500", nothing, bareTexts)
	}
	odd := bridge("1", fork("", below{2: leaf("", "a"), 3: fork("b", nil)}))
	for digits, want := range map[string]answer{"12": value("a"), "13": value("b"), "14": nothing, "1200": nothing, "1300": nothing, "22": nothing} {
		expect(t, digits, keccak.Sum(odd), unhex(digits), []string{odd}, want)
	}
}
