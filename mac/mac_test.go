package mac_test

import (
	"bytes"
	"encoding/hex"
	"math"
	"math/rand"
	"strings"
	"sync"
	"testing"

	"toll/mac"
	"toll/sha"
)

// keySizes are the lengths of keys at and around those of a digest, of a block and of two blocks, and more.
var keySizes = []int{0, 1, 31, 32, 33, 62, 63, 64, 65, 66, 127, 128, 129, 1000}

// derivedSizes are the lengths of derived strings at and around the limits of codes.
var derivedSizes = []int{0, 1, 15, 16, 17, 31, 32, 33, 63, 64, 65, 8127, 8128, 8129, 8159, 8160}

// sample returns n bytes, of which each shorter sample is the beginning.
func sample(n int) []byte {
	b := make([]byte, n)
	for i := range b {
		b[i] = byte(7*i + i*i/31 + 1)
	}
	return b
}

// decoded returns the bytes of a text of hexadecimal digits.
func decoded(t *testing.T, text string) []byte {
	t.Helper()
	b, err := hex.DecodeString(text)
	if err != nil {
		t.Fatal(err)
	}
	return b
}

// codeOf finds a code in a way of its own: from the whole inner and outer strings.
func codeOf(key, b []byte) [32]byte {
	if len(key) > 64 {
		d := sha.Sum(key)
		key = d[:]
	}
	all := append(bytes.Clone(key), bytes.Repeat([]byte{0}, 64-len(key))...)
	var inner, outer []byte
	for _, x := range all {
		inner = append(inner, x^54)
		outer = append(outer, x^92)
	}
	d := sha.Sum(append(inner, b...))
	return sha.Sum(append(outer, d[:]...))
}

// derivedOf finds a derived string in a way of its own: as the beginning of the longest one.
func derivedOf(key []byte, label string, n int) []byte {
	var b []byte
	for i := 1; i <= 255; i++ {
		code := codeOf(key, []byte(string([]byte{byte(i)})+label))
		b = append(b, code[:]...)
	}
	return b[:n]
}

// checkSum checks the code of parts.
func checkSum(t *testing.T, what string, want [32]byte, key []byte, parts ...[]byte) {
	t.Helper()
	if got := mac.Sum(key, parts...); got != want {
		t.Errorf("%s: the code is %x, not %x", what, got, want)
	}
}

// checkCode checks what Check reports of a code of parts.
func checkCode(t *testing.T, what string, want bool, key, code []byte, parts ...[]byte) {
	t.Helper()
	if mac.Check(key, code, parts...) != want {
		t.Errorf("%s: Check does not report %v of the code %x", what, want, code)
	}
}

// TestSumKnown: P5.1; the codes of RFC 4231.
func TestSumKnown(t *testing.T) {
	var count []byte
	for i := range 25 {
		count = append(count, byte(i+1))
	}
	for i, x := range []struct {
		key, b []byte
		want   string
	}{
		{bytes.Repeat([]byte{0x0b}, 20), []byte("Hi There"), "b0344c61d8db38535ca8afceaf0bf12b881dc200c9833da726e9376c2e32cff7"},
		{[]byte("Jefe"), []byte("what do ya want for nothing?"), "5bdcc146bf60754e6a042426089575c75a003f089d2739839dec58b964ec3843"},
		{bytes.Repeat([]byte{0xaa}, 20), bytes.Repeat([]byte{0xdd}, 50), "773ea91e36800e46854db8ebd09181a72959098b3ef8c122d9635514ced565fe"},
		{count, bytes.Repeat([]byte{0xcd}, 50), "82558a389a443c0ea4cc819899f2083a85f0faa3e578f8077a2e3ff46729665b"},
		{bytes.Repeat([]byte{0x0c}, 20), []byte("Test With Truncation"), "a3b6167473100ee06e0c796c2955552bfa6f7c0a6a8aef8b93f860aab0cd20c5"},
		{bytes.Repeat([]byte{0xaa}, 131), []byte("Test Using Larger Than Block-Size Key - Hash Key First"), "60e431591ee0b67f0d8a26aacbf5b77f8e0bc6213728c5140546040f0ee37f54"},
		{bytes.Repeat([]byte{0xaa}, 131), []byte("This is a test using a larger than block-size key and a larger than block-size data. The key needs to be hashed before being used by the HMAC algorithm."), "9b09ffa71b942fcb27635fbcd5b0e944bfdc63644f0713938a7f51535c3a35e2"},
	} {
		want := [32]byte(decoded(t, x.want))
		if got := mac.Sum(x.key, x.b); got != want {
			t.Errorf("case %d: the code is %x, not %x", i+1, got, want)
		}
		if got := codeOf(x.key, x.b); got != want {
			t.Errorf("case %d: the code of the test itself is %x", i+1, got)
		}
	}
}

// TestSumKeys: P5.1; codes that another program makes, under keys of several lengths.
func TestSumKeys(t *testing.T) {
	for _, x := range []struct {
		size          int
		text, nothing string
	}{
		{0, "eb08c1f56d5ddee07f7bdf80468083da06b64cf4fac64fe3a90883df5feacae4", "b613679a0814d9ec772f95d778c35fc5ff1697c493715653c6c712144292c5ad"},
		{1, "1d72ed3e520cacc0facc9055c3538f33590a0a553693e74a545037b76b3511c8", "2f8738164025afdddbc18665c6e8f37de9498db7fd194873c61ee30c22192a9a"},
		{63, "efe5e885212b2e4624955685ee106f999e4c0ff9c4296a8680de8395f4f55fb4", "598fe643801f764f2748078abbd50daca196a253890c02c06f110573f427fd86"},
		{64, "5ceaebb5bbfd90cc9c0a0f6ddffdf834ba6d1c3b6acd4c2a493bba551c8ae29d", "bd0d09dfe8dbd183e6ab53d571b134bca873ff2b7935e31eb8cd65056a94cddc"},
		{65, "7cab11ed0fbb560c7b00961fd08a1ff6a86e2be3bdca99ce24931f81a500b6c5", "ebb56e72d053cdb1a906a985b5f4131983b6d2627a809efccdf3657149f9dd6c"},
		{66, "647c283da74809da1c66b9eecf61e639f9f73ec7487a9d0df7261369ff8fc6db", "c7c01e62bbb00379eafd566aee3f41a31587680343439dc706a7bc85d9b8a220"},
		{128, "29fbea12bc12b718b542eef1ddb38580d4df20c8c51815ef4035d2a8d3f58447", "4bc4dedd3c9a0aaaf2ecd99b28ffd5554cb7d08d6d2b3d1b517b32ef9d139b96"},
		{1000, "bc0a53d8fa827317e7ef8b5ff197f99cb8ba7505d551897a022891f8e668ebcf", "f05ab147fdcf8d1f683dcf45e102caafff1b42b1cb6965233a6f1f16442278b6"},
	} {
		key := sample(x.size)
		checkSum(t, "a message", [32]byte(decoded(t, x.text)), key, []byte("message"))
		checkSum(t, "no part", [32]byte(decoded(t, x.nothing)), key)
	}
}

// TestSumLengths: P5.1; keys and bytes of all lengths around the limits of blocks.
func TestSumLengths(t *testing.T) {
	for n := range 140 {
		for _, size := range []int{0, 1, 55, 56, 63, 64, 65, 119, 120, 128} {
			checkSum(t, "a long key or not", codeOf(sample(n), sample(size)), sample(n), sample(size))
		}
	}
}

// TestSumKeysEqual: P5.1; zero bytes are appended to a short key, and a long one is replaced by its digest.
func TestSumKeysEqual(t *testing.T) {
	b := []byte("some bytes")
	for _, n := range keySizes {
		key := sample(n)
		longer := append(bytes.Clone(key), 0)
		if same := mac.Sum(key, b) == mac.Sum(longer, b); same != (n < 64) {
			t.Errorf("a zero byte after a key of %d bytes: same code %v", n, same)
		}
		d := sha.Sum(key)
		if same := mac.Sum(key, b) == mac.Sum(d[:], b); same != (n > 64) {
			t.Errorf("the digest of a key of %d bytes: same code %v", n, same)
		}
	}
	checkSum(t, "a nil key", mac.Sum([]byte{}, b), nil, b)
}

// TestSumNothing: P5.1; there are several ways to give no bytes.
func TestSumNothing(t *testing.T) {
	for _, n := range keySizes {
		key := sample(n)
		want := codeOf(key, nil)
		checkSum(t, "no part", want, key)
		checkSum(t, "an empty list", want, key, [][]byte{}...)
		checkSum(t, "a nil part", want, key, nil)
		checkSum(t, "an empty part", want, key, []byte{})
		checkSum(t, "parts without bytes", want, key, nil, []byte{}, nil, make([]byte, 0, 80))
	}
}

// TestSumMatters: P5.1; the key, the bytes and their order matter.
func TestSumMatters(t *testing.T) {
	seen := map[[32]byte]string{}
	see := func(what string, code [32]byte) {
		if other, ok := seen[code]; ok {
			t.Errorf("%s has the code of %s", what, other)
		}
		seen[code] = what
	}
	a, b := []byte("ab"), sample(70)
	see("a, b", mac.Sum(a, a, b))
	see("b, a", mac.Sum(a, b, a))
	see("a", mac.Sum(a, a))
	see("b", mac.Sum(a, b))
	see("a, b under b", mac.Sum(b, a, b))
	for i := range b {
		changed := bytes.Clone(b)
		changed[i] ^= 0x80
		see("changed bytes", mac.Sum(a, a, changed))
		see("a changed key", mac.Sum(changed, a, b))
	}
}

// TestSumOnlyBytes: P5.1; the capacity behind a key or a part does not belong to it.
func TestSumOnlyBytes(t *testing.T) {
	b := sample(200)
	for _, n := range keySizes[:13] {
		checkSum(t, "the first bytes of more", codeOf(sample(n), sample(n)), b[:n], b[:n])
	}
}

// TestEqual: P5.1.
func TestEqual(t *testing.T) {
	for _, n := range []int{0, 1, 2, 16, 32, 33, 255, 256, 257, 600} {
		b := sample(n)
		if !mac.Equal(b, b) || !mac.Equal(b, sample(n)) {
			t.Errorf("%d bytes are not equal", n)
		}
		for i := range b {
			for bit := range 8 {
				changed := bytes.Clone(b)
				changed[i] ^= 1 << bit
				if mac.Equal(b, changed) || mac.Equal(changed, b) {
					t.Errorf("%d bytes: equal in spite of bit %d of byte %d", n, bit, i)
				}
			}
			if mac.Equal(b, b[:i]) || mac.Equal(b[:i], b) {
				t.Errorf("%d bytes equal the first %d of them", n, i)
			}
		}
		if longer := append(bytes.Clone(b), 0); mac.Equal(b, longer) || mac.Equal(longer, b) {
			t.Errorf("%d bytes equal those with a zero byte", n)
		}
	}
}

// TestEqualNothing: P5.1; strings of no bytes, of which nil is one.
func TestEqualNothing(t *testing.T) {
	if !mac.Equal(nil, nil) || !mac.Equal(nil, []byte{}) || !mac.Equal([]byte{}, nil) || !mac.Equal([]byte{}, sample(9)[:0]) {
		t.Error("nothing does not equal nothing")
	}
	if mac.Equal(nil, []byte{0}) || mac.Equal([]byte{0}, nil) || mac.Equal(make([]byte, 256), nil) {
		t.Error("nothing equals zero bytes")
	}
}

// TestEqualChanges: P5.1; several differences do not cancel each other.
func TestEqualChanges(t *testing.T) {
	for _, x := range [][2]string{{"ab", "ba"}, {"aabb", "bbaa"}, {"\x01\x01", "\x00\x00"}, {"\x01\x02", "\x02\x01"}, {"abc", "abd"}, {"\x80\x80", "\x00\x00"}} {
		if mac.Equal([]byte(x[0]), []byte(x[1])) {
			t.Errorf("%q equals %q", x[0], x[1])
		}
	}
	if mac.Equal(bytes.Repeat([]byte{1}, 256), make([]byte, 256)) {
		t.Error("256 differences are none")
	}
}

// TestDeriveKnown: P5.2; derived strings that another program makes: their beginning, their end and the digest of all.
func TestDeriveKnown(t *testing.T) {
	for _, x := range []struct {
		key               []byte
		label             string
		first, last, full string
	}{
		{nil, "", "3d7afb663124ecbf2c953f863d4fc8796eeb2d372b64aad58697ec5264649cdb4e", "fb4985f8759521234ca18940b2ed17fadf89364a4d07c7259ca1aa42942861a61e", "6a44b93c2d1afa5e480d92ab9112dc2118bc56b2154beffe7007abbbe8d717ee"},
		{[]byte("k"), "label", "667ca2ef373b3b4ce7caa7ee71cea4383a0d7b5d897c05c41b75eea48812c6fc7d", "2569be063fdb1cbfebed094d1b656c6e3ef664fb0b172df0aed06b3b7d2932edc5", "55c1d6efc60c8de0591087761ffb571034f337d402e41ac551b3937baff21697"},
		{sample(64), "label", "8fce572236643b93c6054237da70cc314b6889931047e10395ece463b5e905f45b", "ddb16fedb5197fa49cc0177631aeb8b9e7507073f3fce91a2c8aa6c1931cdaf761", "c75be1eaf8d68f6315b7d3aceb16e53b516152cc452329d6243efbfc12dec05f"},
		{sample(65), strings.Repeat("a longer label, ", 5), "c8c1b8901a30819702508de146a48f22cb8ba583c2e06f7641fa03776b895c3cd6", "54ae9afe5c4901f1e80f9adcf10e7b68d1aeca34210d695c394eb9783074e6204c", "44de5a1b834caf12f0389f72fa3d8ae112b31ab9869e364aa0811a21c0723c1f"},
	} {
		all := mac.Derive(x.key, x.label, 8160)
		if len(all) != 8160 {
			t.Fatalf("%q: %d bytes", x.label, len(all))
		}
		full := sha.Sum(all)
		if !bytes.Equal(all[:33], decoded(t, x.first)) || !bytes.Equal(all[8127:], decoded(t, x.last)) || !bytes.Equal(full[:], decoded(t, x.full)) {
			t.Errorf("%q: the derived string is %x .. %x", x.label, all[:33], all[8127:])
		}
	}
}

// TestDerive: P5.2; all lengths of two codes and more, and those at the limits.
func TestDerive(t *testing.T) {
	for _, size := range []int{0, 5, 63, 64, 65, 100} {
		key := sample(size)
		for _, label := range []string{"", "label", "\x00\xff\x80", "\u00e9", strings.Repeat("x", 70)} {
			all := derivedOf(key, label, 8160)
			for n := range 100 {
				if got := mac.Derive(key, label, n); !bytes.Equal(got, all[:n]) {
					t.Errorf("%q, %d bytes: %x", label, n, got)
				}
			}
			for _, n := range derivedSizes {
				if got := mac.Derive(key, label, n); !bytes.Equal(got, all[:n]) {
					t.Errorf("%q, %d bytes: another string", label, n)
				}
			}
		}
	}
}

// TestDeriveOutside: P5.2.
func TestDeriveOutside(t *testing.T) {
	for _, n := range []int{math.MinInt, math.MinInt32, -8160, -32, -2, -1, 8161, 8162, 8192, 1 << 16, math.MaxInt32, math.MaxInt} {
		for _, label := range []string{"", "label"} {
			if got := mac.Derive([]byte("key"), label, n); len(got) != 0 {
				t.Errorf("%d: %d bytes", n, len(got))
			}
		}
	}
}

// TestDeriveMatters: P5.2; the key and the label matter, and no two codes of one string are the same.
func TestDeriveMatters(t *testing.T) {
	key := []byte("key")
	want := mac.Derive(key, "label", 40)
	for _, label := range []string{"", "labe", "label ", "Label", "label\x00", "\x01label"} {
		if bytes.Equal(mac.Derive(key, label, 40), want) {
			t.Errorf("%q has the same string", label)
		}
	}
	if bytes.Equal(mac.Derive([]byte("kez"), "label", 40), want) {
		t.Error("another key has the same string")
	}
	seen := map[[32]byte]bool{}
	for rest := mac.Derive(key, "label", 8160); len(rest) > 0; rest = rest[32:] {
		seen[[32]byte(rest[:32])] = true
	}
	if len(seen) != 255 {
		t.Errorf("%d codes instead of 255", len(seen))
	}
}

// TestKey: P5.2.
func TestKey(t *testing.T) {
	if k := mac.Key([]byte("k"), "label"); !bytes.Equal(k[:], decoded(t, "667ca2ef373b3b4ce7caa7ee71cea438")) {
		t.Errorf("the key is %x", k)
	}
	for _, n := range keySizes {
		for _, label := range []string{"", "a", "label", strings.Repeat("label", 20)} {
			want := codeOf(sample(n), []byte("\x01"+label))
			if k := mac.Key(sample(n), label); k != [16]byte(want[:16]) {
				t.Errorf("a key of %d bytes, %q: %x", n, label, k)
			}
		}
	}
}

// TestCheckLengths: P5.3; the beginnings of a code, and longer ones.
func TestCheckLengths(t *testing.T) {
	for _, n := range keySizes {
		key, b := sample(n), []byte("some bytes")
		code := codeOf(key, b)
		for size := range len(code) + 1 {
			checkCode(t, "a beginning", size >= 16, key, code[:size], b)
		}
		checkCode(t, "33 bytes", false, key, append(code[:], 0), b)
		checkCode(t, "48 bytes", false, key, append(code[:], code[:16]...), b)
		checkCode(t, "two codes", false, key, append(code[:], code[:]...), b)
		checkCode(t, "nil", false, key, nil, b)
	}
}

// TestCheckChanges: P5.3; no byte of a code may be another one.
func TestCheckChanges(t *testing.T) {
	key, b := sample(20), sample(100)
	want := codeOf(key, b)
	for _, size := range []int{15, 16, 17, 31, 32} {
		for i := range size {
			for bit := range 8 {
				code := bytes.Clone(want[:size])
				code[i] ^= 1 << bit
				checkCode(t, "a changed byte", false, key, code, b)
			}
		}
		checkCode(t, "zero bytes", false, key, make([]byte, size), b)
	}
	checkCode(t, "the bytes from the second on", false, key, want[1:17], b)
	checkCode(t, "the last bytes", false, key, want[16:], b)
	checkCode(t, "a beginning and zero bytes", false, key, append(bytes.Clone(want[:16]), make([]byte, 16)...), b)
}

// TestCheckOthers: P5.3; the code of other bytes, or under another key.
func TestCheckOthers(t *testing.T) {
	key, b := []byte("key"), []byte("some bytes")
	code := mac.Sum(key, b)
	for _, size := range []int{16, 32} {
		checkCode(t, "the key", true, key, code[:size], b)
		checkCode(t, "a shorter key", false, key[:2], code[:size], b)
		checkCode(t, "no key", false, nil, code[:size], b)
		checkCode(t, "fewer bytes", false, key, code[:size], b[1:])
		checkCode(t, "no part", false, key, code[:size])
		checkCode(t, "more bytes", false, key, code[:size], b, []byte{0})
		checkCode(t, "another order", false, key, code[:size], b[5:], b[:5])
	}
	none := mac.Sum(key)
	checkCode(t, "no part has a code too", true, key, none[:16])
	checkCode(t, "a nil part has the same", true, key, none[:16], nil)
}

// TestDerivedBegins: P5.4; each derived string begins with each shorter one.
func TestDerivedBegins(t *testing.T) {
	for _, size := range []int{0, 64, 65} {
		for _, n := range derivedSizes {
			long := mac.Derive(sample(size), "label", n)
			if len(long) != n {
				t.Fatalf("%d bytes instead of %d", len(long), n)
			}
			for _, m := range derivedSizes {
				if short := mac.Derive(sample(size), "label", m); m <= n && !bytes.HasPrefix(long, short) {
					t.Errorf("the string of %d bytes does not begin with that of %d", n, m)
				}
			}
		}
	}
}

// TestTwoParts: P5.4; each place where bytes can be divided, also with parts of no bytes.
func TestTwoParts(t *testing.T) {
	for _, n := range []int{1, 55, 64, 130} {
		key, b := sample(n), sample(n)
		want := codeOf(key, b)
		for i := range n + 1 {
			checkSum(t, "two parts", want, key, b[:i], b[i:])
			checkSum(t, "two parts among empty ones", want, key, nil, b[:i], []byte{}, nil, b[i:], nil)
			checkCode(t, "two parts", true, key, want[:], b[:i], b[i:])
			checkCode(t, "two parts among empty ones", true, key, want[:16], nil, b[:i], []byte{}, nil, b[i:], nil)
		}
	}
}

// TestManyParts: P5.4.
func TestManyParts(t *testing.T) {
	source := rand.New(rand.NewSource(5))
	for range 300 {
		key, b := make([]byte, source.Intn(130)), make([]byte, source.Intn(600))
		source.Read(key)
		source.Read(b)
		want := codeOf(key, b)
		var parts [][]byte
		for rest := b; len(rest) > 0; {
			n := source.Intn(min(len(rest), 1<<source.Intn(9)) + 1)
			parts = append(parts, rest[:n])
			rest = rest[n:]
		}
		checkSum(t, "many parts", want, key, parts...)
		checkCode(t, "many parts", true, key, want[:16+source.Intn(17)], parts...)
	}
}

// TestLarge: P5.1 to P5.4; as many bytes as there may be.
func TestLarge(t *testing.T) {
	b := sample(1 << 21)
	d := sha.Sum(b)
	checkSum(t, "a large key", codeOf(d[:], nil), b)
	want := codeOf(nil, b)
	checkSum(t, "a large part", want, nil, b)
	for _, i := range []int{1, 63, 64, 1 << 20, 1<<21 - 1} {
		checkSum(t, "two large parts", want, nil, b[:i], b[i:])
		checkCode(t, "two large parts", true, nil, want[:], b[:i], b[i:])
	}
	if !mac.Equal(b, sample(1<<21)) || mac.Equal(b, b[:1<<21-1]) {
		t.Error("large strings are compared wrongly")
	}
	code := codeOf(nil, append([]byte{1}, b...))
	if k := mac.Key(nil, string(b)); k != [16]byte(code[:16]) {
		t.Errorf("the key of a large label is %x", k)
	}
	if !bytes.Equal(mac.Derive(b, "label", 8160), derivedOf(d[:], "label", 8160)) {
		t.Error("a large key has another derived string")
	}
}

// TestArgumentsStay: rule 5; keys, codes, parts and the unused capacity behind them stay as they are.
func TestArgumentsStay(t *testing.T) {
	for _, n := range keySizes[:13] {
		b := sample(400)
		parts := [][]byte{b[200:210], b[210:210], nil, b[300:]}
		mac.Sum(b[:n], parts[:2]...)
		mac.Check(b[:n], b[220:252], parts[:2]...)
		mac.Derive(b[:n], "label", 70)
		mac.Key(b[:n], "label")
		mac.Equal(b[:n], b[200:200+n])
		if !bytes.Equal(b, sample(400)) {
			t.Fatalf("a key of %d bytes or a part was changed", n)
		}
		if len(parts[0]) != 10 || len(parts[1]) != 0 || parts[2] != nil || len(parts[3]) != 100 {
			t.Fatalf("the list of parts was changed: %v", parts)
		}
	}
}

// TestDeriveIsNew: rules 5 and 7; who changes a derived string, and appends to it, changes no other one.
func TestDeriveIsNew(t *testing.T) {
	for _, n := range derivedSizes {
		one, two := mac.Derive([]byte("key"), "label", n), mac.Derive([]byte("key"), "label", n)
		clear(one)
		_ = append(one, 1, 2, 3)
		if want := derivedOf([]byte("key"), "label", n); !bytes.Equal(two, want) || !bytes.Equal(mac.Derive([]byte("key"), "label", n), want) {
			t.Errorf("a change of a derived string of %d bytes changed others", n)
		}
	}
}

// TestAgain: rules 7 and 8; nothing is left of earlier calls, and calls at the same time do not meet.
func TestAgain(t *testing.T) {
	var group sync.WaitGroup
	for i := range 8 {
		group.Go(func() {
			for j := range 40 {
				key, b := sample(30*i+j), sample(50+j)
				code := codeOf(key, b)
				derived := derivedOf(key, "label", 100)
				if mac.Sum(key, b) != code || !mac.Check(key, code[:20], b) || !bytes.Equal(mac.Derive(key, "label", 100), derived) || mac.Key(key, "label") != [16]byte(derived[:16]) {
					t.Errorf("a key of %d bytes: another code beside other calls", len(key))
				}
			}
		})
	}
	group.Wait()
}
