package seal_test

import (
	"bytes"
	"encoding/hex"
	"math/rand"
	"slices"
	"sync"
	"testing"

	"toll/ctr"
	"toll/mac"
	"toll/seal"
	"toll/sha"
)

// The sizes of the chapter.
const (
	nonceSize = 8
	codeSize  = 16
	maxBytes  = 1 << 20 // that are sealed
)

// key, usage and nonce are those of most tests.
var (
	key   = [16]byte{0, 1, 2, 3, 4, 5, 6, 7, 8, 9, 10, 11, 12, 13, 14, 15}
	usage = byte(7)
	nonce = [8]byte{0xa0, 0xa1, 0xa2, 0xa3, 0xa4, 0xa5, 0xa6, 0xa7}
)

// knownKeys are keys with what Python's HMAC-SHA256 derives from them.
var knownKeys = []struct{ key, e, m string }{
	{"00000000000000000000000000000000", "15db90261ef3f3313ad91b0714a5a767", "95b3453c37366ae68be8b286722c1b8d35c210bd4ae21d1ad94e62b77d9fa92f"},
	{"000102030405060708090a0b0c0d0e0f", "e333ead8295683963bc13b153fbc4583", "e25c8fe326092af948367abf7a422791699d6fba92c905baeda1f21b08f9d6dd"},
	{"ffffffffffffffffffffffffffffffff", "fee6473d7f9cd938f38266162bc891ed", "bea05edda3d8769cd38271adee39001b1c0d7dd9aafa11631222e0f204329735"},
	{"6ea687766eacfb9cf05e915ffceb6244", "afb5df21d4dc8dcb7a2fb32975c9afaf", "a35e9cbd524dd47084defc566f44c5e10cc95ad2233133b2463ed437108c2ac3"},
	{"aa5177230732a72f55ffd6dd5e8338ad", "3f305a45041d9ff134c14ed87d381338", "35dcb4ee47d71d357eaff71527502949ff068bbd5c503601d39416364fcd0997"},
	{"50baa50136809c568653b6805174b676", "87f0ab8175f8fadb94633a93c6f88286", "8d186e2b4add47b8b1d042108de620389c3ed5cbf91df3a675448b6496168717"},
	{"1ddbf6e5cd8acd9ad744b014e2988255", "10f2274a0bad4f474fbc71b84b5866e6", "646f065cadf5218f6511bfd6b216018d83e9579a69d8a18810e3983d8cdb202a"},
}

// known are sealed strings that Python's HMAC-SHA256 and OpenSSL's AES-128-CTR make: of no bytes, of one byte, and of lengths around those of a block and of several ones.
var known = []struct {
	key            string
	usage          byte
	nonce, b, want string
}{
	{"00000000000000000000000000000000", 0, "0000000000000000", "", "0000000000000000b3f1be33af3a3844741ede572fc5c4b0"},
	{"000102030405060708090a0b0c0d0e0f", 0, "a0a1a2a3a4a5a6a7", "", "a0a1a2a3a4a5a6a7d4a7d6a33ecca48c82ee60e9e824a894"},
	{"000102030405060708090a0b0c0d0e0f", 255, "a0a1a2a3a4a5a6a7", "78", "a0a1a2a3a4a5a6a76ebe7716b8c8a306863b0f82d5360ba672"},
	{"ffffffffffffffffffffffffffffffff", 128, "ffffffffffffffff", "00000000000000000000000000000000", "ffffffffffffffff49dd3c21950bf422c1567901a1ede93bf798f7ab227c774e93feb98d326cba31"},
	{"000102030405060708090a0b0c0d0e0f", 2, "a0a1a2a3a4a5a6a7", "412072657175657374206973206163636570746564206f6e63652c207768617465766572206c696573206265747765656e2e", "a0a1a2a3a4a5a6a7572499ed2cd41c295a2d2f1580f26e64497ebfdf9d8a83a11a16a0f9a7b49ee3e92a349ee311958537a7b1bea70d9e34375b52275730468fff43119c408a6f38c55e"},
	{"47abe48dfefbb6eff8c6dc9d76a439b3", 20, "6cce6abac36d0761", "2b", "6cce6abac36d076136ae0b104ff7fd0a6738fb18b647ad090f"},
	{"674a17b4c42c3bf290a4b773548286f3", 216, "a6733b2885181e2b", "2c5eee3c163a240da90e671ca4e621", "a6733b2885181e2bbf8eb4a0773410a21cb2071408d2f370be785b1358bd6b35414d08745a59f0"},
	{"3bd99a81b36529dfdf1b80eca919b1fd", 32, "6a9732c601a73db0", "e6db3762c7e422ca8d1800bf2abb23e3", "6a9732c601a73db04735571ab27fb28622d39d6f5a802fd6de68cc10f644765a7c68f9f8b67476a4"},
	{"0502071ab8a940eb93a58a4a2b447834", 114, "35e4c7b957c301cb", "5929f86bb341bbe38d51741686d1c7c544", "35e4c7b957c301cbb76bee30d3fd4fce31f5b935b30f49c36731a90ef41b0a5c3dc1782b14becf7c5d"},
	{"002750e9115cbb3514d68365b4b3fb47", 174, "e5173ccf26cf0e0b", "19551133c5f673b5c817ebe2c17a5901fb991ee1c5984369d4ac060efb53e5", "e5173ccf26cf0e0ba9b8666f36177a08919fd7e38db05b3798bb476274b6e76efbcf726885182979283a175227b2b0f0f9e7ffdc85af5c"},
	{"951cfa60d0c586d808d2e07d3add9e23", 12, "f58d9a3cf1ccba6c", "03ce79bccf860ae8238cc9d97a10af1cf286c9f643e0ca9865edfd00cb16091f", "f58d9a3cf1ccba6c01e1023ce073ef6fb877a1cc3bfd25b51d3e17f75ac56216ea0607f74addde7edca23ddf2711315a8d4791f6eb449490"},
	{"994dadc3e2b3259413869a324e9b32e5", 103, "ef148954ffd61c02", "954179e4f97d6015824e18227e542e8a9b99ebea65937804a7a634805fd9b71592", "ef148954ffd61c0254a5a98a7baa191fe508629825f941fc17a58dd2033b279ccf073dc3d5c1fb88f1de65af80c4240c04abd5f1840d7fac35"},
	{"ec752a7ff7579f89d2d3c1eb64a0bb32", 215, "3a339e11f829ec65", "3db1313110fe82a30d56d0c3983aea1784c06ab360c86d9404213625ab932c2c583191f04f1be09b20043ab8c2d854f5", "3a339e11f829ec65e63d75a85cbb3858478de30d53d233a7eedcd8b12389d0ebac592ba4a5ff8684bd9175fa0965dff2918c813d17c02f46815854ad6bdaa9cf05f3f7b1adf23251"},
}

// The first and last bytes, and the digest, of what Python and OpenSSL make of the longest sample.
const (
	longFirst = "a0a1a2a3a4a5a6a71d16f2a87a8f4f676b41123dc3f87e7caf8558215a065872bcbd5a06382d0594"
	longLast  = "a7cbc2b38d4c27f890a73216de249adee533e9791fed539e4024caab4e843cf7c27f39db8d456baf"
	longAll   = "1c41a665c687ddd14d6be4fbc3648e13316343417f1057b354290be3a02b4340"
)

// sizes are the lengths of bytes at and around those of a nonce, of a code and of several blocks, and more.
var sizes = []int{0, 1, 2, 7, 8, 9, 15, 16, 17, 23, 24, 25, 31, 32, 33, 47, 48, 49, 63, 64, 65, 100, 255, 256, 257}

// sample returns n bytes, of which each shorter sample is the beginning.
func sample(n int) []byte {
	b := make([]byte, n)
	for i := range b {
		b[i] = byte(7*i + i*i/31 + 11)
	}
	return b
}

// decoded returns the bytes of a text of hexadecimal digits.
func decoded(t *testing.T, s string) []byte {
	t.Helper()
	b, err := hex.DecodeString(s)
	if err != nil {
		t.Fatal(err)
	}
	return b
}

// coded returns bytes with the beginning of a code behind them: that of all parts under a key.
func coded(front []byte, n int, key []byte, parts ...[]byte) []byte {
	code := mac.Sum(key, parts...)
	return slices.Concat(front, code[:n])
}

// signed returns bytes with the code behind them that a sealed string has, for key and usage.
func signed(front []byte) []byte {
	return coded(front, codeSize, mac.Derive(key[:], "protect", 32), []byte{usage}, front)
}

// sealedOf returns a sealed string in a way of its own.
func sealedOf(key [16]byte, usage byte, nonce [8]byte, b []byte) []byte {
	e := [16]byte(mac.Derive(key[:], "encrypt", 16))
	front := slices.Concat(nonce[:], b)
	for i := range b {
		block := ctr.Block(e, nonce, uint64(i/16))
		front[nonceSize+i] ^= block[i%16]
	}
	return coded(front, codeSize, mac.Derive(key[:], "protect", 32), []byte{usage}, front)
}

// checkOpen checks that a string is opened.
func checkOpen(t *testing.T, key [16]byte, usage byte, s, want []byte) {
	t.Helper()
	if got, ok := seal.Open(key, usage, s); !bytes.Equal(got, want) || !ok {
		t.Errorf("Open(%x, %d, %x) returns %x, %v, not %x", key, usage, s, got, ok, want)
	}
}

// checkShut checks that a string is not opened, and that nothing is returned.
func checkShut(t *testing.T, what string, key [16]byte, usage byte, s []byte) {
	t.Helper()
	if got, ok := seal.Open(key, usage, s); len(got) != 0 || ok {
		t.Errorf("%s: Open(%x, %d, %x) returns %x, %v", what, key, usage, s, got, ok)
	}
}

// checkNonce checks the nonce of a string.
func checkNonce(t *testing.T, s []byte, want [8]byte, wantOk bool) {
	t.Helper()
	if got, ok := seal.Nonce(s); got != want || ok != wantOk {
		t.Errorf("Nonce(%x) returns %x, %v, not %x, %v", s, got, ok, want, wantOk)
	}
}

// checkAll checks what Seal makes of bytes, and what Open and Nonce make of this.
func checkAll(t *testing.T, key [16]byte, usage byte, nonce [8]byte, b, want []byte) {
	t.Helper()
	s := seal.Seal(key, usage, nonce, b)
	if !bytes.Equal(s, want) {
		t.Errorf("Seal(%x, %d, %x, %x) returns %x, not %x", key, usage, nonce, b, s, want)
	}
	if len(s) != len(b)+24 {
		t.Errorf("the sealed string of %d bytes has %d", len(b), len(s))
	}
	checkOpen(t, key, usage, s, b)
	checkNonce(t, s, nonce, true)
}

// TestExample: P9.1, P9.2 and P9.4; the example of the chapter, with each of the bytes changed to each other one.
func TestExample(t *testing.T) {
	s := seal.Seal(key, usage, nonce, nil)
	if len(s) != 24 {
		t.Fatalf("the sealed string of no bytes has %d", len(s))
	}
	checkOpen(t, key, usage, s, nil)
	for i := range s {
		for change := 1; change < 256; change++ {
			changed := bytes.Clone(s)
			changed[i] ^= byte(change)
			checkShut(t, "one byte changed", key, usage, changed)
		}
	}
}

// TestOverhead: P9.4; the constant has no type, and is the number of bytes that are added.
func TestOverhead(t *testing.T) {
	const overhead byte = seal.Overhead
	if overhead != 24 {
		t.Errorf("the overhead is %d", overhead)
	}
}

// TestKeysKnown: P9.1; keys that another program derives.
func TestKeysKnown(t *testing.T) {
	for _, x := range knownKeys {
		e, m := seal.Keys([16]byte(decoded(t, x.key)))
		if !bytes.Equal(e[:], decoded(t, x.e)) || !bytes.Equal(m[:], decoded(t, x.m)) {
			t.Errorf("the keys of %s are %x and %x", x.key, e, m)
		}
	}
}

// TestKeys: P9.1; the derived strings of layer 5, and each bit of a key matters to both.
func TestKeys(t *testing.T) {
	firstE, firstM := seal.Keys(key)
	for bit := range 128 {
		changed := key
		changed[bit/8] ^= 1 << (bit % 8)
		e, m := seal.Keys(changed)
		if !bytes.Equal(e[:], mac.Derive(changed[:], "encrypt", 16)) || !bytes.Equal(m[:], mac.Derive(changed[:], "protect", 32)) {
			t.Errorf("the keys of %x are %x and %x", changed, e, m)
		}
		if e == firstE || m == firstM {
			t.Errorf("%x has a key of %x", changed, key)
		}
	}
}

// TestKnown: P9.1 to P9.4; sealed strings of other programs.
func TestKnown(t *testing.T) {
	for _, x := range known {
		checkAll(t, [16]byte(decoded(t, x.key)), x.usage, [8]byte(decoded(t, x.nonce)), decoded(t, x.b), decoded(t, x.want))
	}
}

// TestRandom: P9.1 to P9.4; random keys, usages, nonces and bytes of many lengths.
func TestRandom(t *testing.T) {
	source := rand.New(rand.NewSource(9))
	for _, n := range sizes {
		for range 10 {
			var key [16]byte
			var nonce [8]byte
			source.Read(key[:])
			source.Read(nonce[:])
			usage := byte(source.Intn(256))
			b := make([]byte, n)
			source.Read(b)
			checkAll(t, key, usage, nonce, b, sealedOf(key, usage, nonce, b))
		}
	}
}

// TestLengths: P9.1 to P9.4; all lengths up to that of five blocks.
func TestLengths(t *testing.T) {
	for n := range 81 {
		checkAll(t, key, usage, nonce, sample(n), sealedOf(key, usage, nonce, sample(n)))
	}
}

// TestNothing: P9.1 and P9.2; nil is a way to give no bytes.
func TestNothing(t *testing.T) {
	want := sealedOf(key, usage, nonce, nil)
	for _, b := range [][]byte{nil, {}, make([]byte, 0, 40), sample(20)[20:]} {
		checkAll(t, key, usage, nonce, b, want)
	}
}

// TestSealMatters: P9.1; each bit of the key and of the nonce, each usage and each byte matter.
func TestSealMatters(t *testing.T) {
	seen := map[string]string{}
	see := func(what string, key [16]byte, usage byte, nonce [8]byte, b []byte) {
		s := string(seal.Seal(key, usage, nonce, b))
		if other, ok := seen[s]; ok {
			t.Errorf("%s has the sealed string of %s", what, other)
		}
		seen[s] = what
	}
	b := sample(33)
	for i := range 256 {
		see("a usage", key, byte(i), nonce, b)
	}
	for bit := range 128 {
		changed := key
		changed[bit/8] ^= 1 << (bit % 8)
		see("another key", changed, usage, nonce, b)
	}
	for bit := range 64 {
		changed := nonce
		changed[bit/8] ^= 1 << (bit % 8)
		see("another nonce", key, usage, changed, b)
	}
	for i := range b {
		changed := bytes.Clone(b)
		changed[i] ^= 0x80
		see("other bytes", key, usage, nonce, changed)
		see("fewer bytes", key, usage, nonce, b[:i])
	}
}

// TestLong: P9.1 to P9.4; as many bytes as there may be.
func TestLong(t *testing.T) {
	b := sample(maxBytes)
	s := seal.Seal(key, usage, nonce, b)
	if len(s) != maxBytes+24 {
		t.Fatalf("Seal returns %d bytes", len(s))
	}
	all := sha.Sum(s)
	if !bytes.Equal(s[:40], decoded(t, longFirst)) || !bytes.Equal(s[maxBytes-16:], decoded(t, longLast)) || !bytes.Equal(all[:], decoded(t, longAll)) {
		t.Errorf("Seal returns %x .. %x, with the digest %x", s[:40], s[maxBytes-16:], all)
	}
	if got, ok := seal.Open(key, usage, s); !bytes.Equal(got, b) || !ok {
		t.Errorf("Open returns %d bytes, %v", len(got), ok)
	}
	checkNonce(t, s, nonce, true)
	for _, i := range []int{0, nonceSize, maxBytes / 2, maxBytes + nonceSize - 1, maxBytes + nonceSize, len(s) - 1} {
		s[i] ^= 4
		if got, ok := seal.Open(key, usage, s); len(got) != 0 || ok {
			t.Errorf("Open returns %d bytes, %v, where the byte %d is changed", len(got), ok, i)
		}
		s[i] ^= 4
	}
	if got, ok := seal.Open(key, usage, s[:len(s)-1]); len(got) != 0 || ok {
		t.Errorf("Open returns %d bytes, %v, of a string without its last byte", len(got), ok)
	}
}

// TestUsages: P9.1 and P9.2; what is sealed for a usage is opened for this one, and for none of the others.
func TestUsages(t *testing.T) {
	b := sample(17)
	for i := range 256 {
		s := sealedOf(key, byte(i), nonce, b)
		checkAll(t, key, byte(i), nonce, b, s)
		for k := range 256 {
			if k != i {
				checkShut(t, "another usage", key, byte(k), s)
			}
		}
	}
}

// TestOtherKey: P9.2; a key of which one bit differs opens nothing.
func TestOtherKey(t *testing.T) {
	for _, n := range []int{0, 1, 40} {
		s := sealedOf(key, usage, nonce, sample(n))
		for bit := range 128 {
			changed := key
			changed[bit/8] ^= 1 << (bit % 8)
			checkShut(t, "another key", changed, usage, s)
		}
		checkShut(t, "no key", [16]byte{}, usage, s)
	}
}

// TestChanged: P9.2; one bit changed at each place of the nonce, of the bytes and of the code.
func TestChanged(t *testing.T) {
	for _, n := range []int{0, 1, 15, 16, 17, 48} {
		s := sealedOf(key, usage, nonce, sample(n))
		for bit := range 8 * len(s) {
			changed := bytes.Clone(s)
			changed[bit/8] ^= 1 << (bit % 8)
			checkShut(t, "one bit changed", key, usage, changed)
		}
	}
}

// TestChangedTwice: P9.2; two changes do not cancel each other.
func TestChangedTwice(t *testing.T) {
	s := sealedOf(key, usage, nonce, sample(5))
	for i := range s {
		for k := range i {
			changed := bytes.Clone(s)
			changed[i] ^= 1
			changed[k] ^= 1
			checkShut(t, "two bytes changed", key, usage, changed)
			changed = bytes.Clone(s)
			changed[i], changed[k] = changed[k], changed[i]
			if s[i] != s[k] {
				checkShut(t, "two bytes exchanged", key, usage, changed)
			}
		}
	}
}

// TestMoreAndLess: P9.2; one byte more at each place, one byte less, and each beginning and end.
func TestMoreAndLess(t *testing.T) {
	for _, n := range []int{0, 1, 16, 33} {
		s := sealedOf(key, usage, nonce, sample(n))
		for i := range len(s) + 1 {
			for _, more := range []byte{0, 1, 0xff} {
				checkShut(t, "one byte more", key, usage, slices.Insert(bytes.Clone(s), i, more))
			}
		}
		for i := range s {
			checkShut(t, "one byte less", key, usage, slices.Delete(bytes.Clone(s), i, i+1))
			checkShut(t, "a beginning", key, usage, s[:i])
			checkShut(t, "an end", key, usage, s[i+1:])
		}
		checkShut(t, "two sealed strings", key, usage, slices.Concat(s, s))
	}
}

// TestShort: P9.2 and P9.3; strings of 0 to 24 bytes and nil, and among the short ones those whose last 16 bytes are the code of those in front.
func TestShort(t *testing.T) {
	checkShut(t, "nil", key, usage, nil)
	checkNonce(t, nil, [8]byte{}, false)
	for n := range 24 {
		short := [][]byte{make([]byte, n), sample(n), sealedOf(key, usage, nonce, sample(40))[:n], make([]byte, n, 60)}
		if n >= codeSize {
			short = append(short, signed(sample(n-codeSize)))
		}
		for _, s := range short {
			checkShut(t, "a short string", key, usage, s)
			checkNonce(t, s, [8]byte{}, false)
		}
	}
	for _, s := range [][]byte{make([]byte, 24), sample(24), sealedOf(key, usage, nonce, sample(40))[:24]} {
		checkShut(t, "24 bytes", key, usage, s)
		checkNonce(t, s, [8]byte(s[:8]), true)
	}
	checkOpen(t, key, usage, signed(sample(8)), nil)
}

// TestForged: P9.2; codes that are not the one of the chapter.
func TestForged(t *testing.T) {
	e, m := mac.Derive(key[:], "encrypt", 32), mac.Derive(key[:], "protect", 32)
	for _, n := range sizes {
		b := sample(n)
		s := sealedOf(key, usage, nonce, b)
		front := s[:nonceSize+n]
		checkOpen(t, key, usage, coded(front, codeSize, m, []byte{usage}, front), b)
		for what, forged := range map[string][]byte{
			"under E":                     coded(front, codeSize, e[:16], []byte{usage}, front),
			"under a longer E":            coded(front, codeSize, e, []byte{usage}, front),
			"under the key":               coded(front, codeSize, key[:], []byte{usage}, front),
			"under half of M":             coded(front, codeSize, m[:16], []byte{usage}, front),
			"without the usage":           coded(front, codeSize, m, front),
			"with the usage behind":       coded(front, codeSize, m, front, []byte{usage}),
			"without the nonce":           coded(front, codeSize, m, []byte{usage}, front[nonceSize:]),
			"of the nonce without a byte": coded(front, codeSize, m, []byte{usage}, front[1:]),
			"of nothing":                  coded(front, codeSize, m),
			"of zero bytes":               slices.Concat(front, make([]byte, codeSize)),
		} {
			checkShut(t, "a code "+what, key, usage, forged)
		}
		if n > 0 {
			checkShut(t, "a code of the bytes that are sealed", key, usage, coded(front, codeSize, m, []byte{usage}, nonce[:], b))
			checkShut(t, "a code with the nonce behind", key, usage, coded(front, codeSize, m, []byte{usage}, front[nonceSize:], front[:nonceSize]))
			checkShut(t, "a code without the last byte", key, usage, coded(front, codeSize, m, []byte{usage}, front[:len(front)-1]))
		}
		for k := range 33 {
			if k != codeSize {
				checkShut(t, "a code of another length", key, usage, coded(front, k, m, []byte{usage}, front))
			}
		}
		whole := mac.Sum(m, []byte{usage}, front)
		checkShut(t, "the end of a code", key, usage, slices.Concat(front, whole[codeSize:]))
	}
}

// TestAnyNonce: P9.1 to P9.3; each bit of a nonce, and none of them.
func TestAnyNonce(t *testing.T) {
	b := sample(33)
	checkAll(t, key, usage, [8]byte{}, b, sealedOf(key, usage, [8]byte{}, b))
	for bit := range 64 {
		var one, others [8]byte
		for i := range others {
			others[i] = 0xff
		}
		one[bit/8] ^= 1 << (bit % 8)
		others[bit/8] ^= 1 << (bit % 8)
		checkAll(t, key, usage, one, b, sealedOf(key, usage, one, b))
		checkAll(t, key, usage, others, b, sealedOf(key, usage, others, b))
	}
}

// TestNonce: P9.3; any bytes, whether a string is sealed or not.
func TestNonce(t *testing.T) {
	for _, n := range append([]int{24, 25, 26, 40, maxBytes + 23, maxBytes + 24}, sizes...) {
		for _, s := range [][]byte{sample(n), make([]byte, n), bytes.Repeat([]byte{0xff}, n)} {
			var want [8]byte
			if n >= 24 {
				copy(want[:], s)
			}
			checkNonce(t, s, want, n >= 24)
		}
	}
}

// TestSealAgain: P9.4; what Open accepts is what Seal makes of the result for the nonce that Nonce returns, also if Seal did not make it.
func TestSealAgain(t *testing.T) {
	source := rand.New(rand.NewSource(10))
	for _, n := range sizes {
		for range 10 {
			front := make([]byte, nonceSize+n)
			source.Read(front)
			s := signed(front)
			b, ok := seal.Open(key, usage, s)
			if len(b) != n || !ok {
				t.Fatalf("Open(%x, %d, %x) returns %x, %v", key, usage, s, b, ok)
			}
			x, ok := seal.Nonce(s)
			if got := seal.Seal(key, usage, x, b); !bytes.Equal(got, s) || !ok {
				t.Errorf("%x was opened, but is %x when it is sealed again", s, got)
			}
		}
	}
}

// TestSealSealed: P9.1 and P9.2; a sealed string can be sealed.
func TestSealSealed(t *testing.T) {
	b := sample(20)
	inner := seal.Seal(key, 1, nonce, b)
	outer := seal.Seal(key, 1, nonce, inner)
	checkOpen(t, key, 1, outer, inner)
	checkShut(t, "an outer string without its nonce and code", key, 1, outer[nonceSize:len(outer)-codeSize])
	checkOpen(t, key, 1, inner, b)
}

// TestArgumentsStay: rule 5; bytes and the unused capacity behind them stay as they are.
func TestArgumentsStay(t *testing.T) {
	for _, n := range sizes {
		b := sample(400)
		seal.Seal(key, usage, nonce, b[:n])
		seal.Open(key, usage, b[:n])
		seal.Nonce(b[:n])
		if !bytes.Equal(b, sample(400)) {
			t.Fatalf("%d bytes or those behind them were changed", n)
		}
		want := sealedOf(key, usage, nonce, b[:n])
		s := append(bytes.Clone(want), sample(60)...)
		checkOpen(t, key, usage, s[:len(want)], b[:n])
		checkNonce(t, s[:len(want)], nonce, true)
		if !bytes.Equal(s, append(bytes.Clone(want), sample(60)...)) {
			t.Fatalf("the sealed string of %d bytes or what is behind it was changed", n)
		}
	}
}

// TestResultsAreNew: rule 5; who changes a result, and appends to it, changes neither the argument nor another result, and who changes the argument, no result.
func TestResultsAreNew(t *testing.T) {
	for _, n := range sizes {
		want := sealedOf(key, usage, nonce, sample(n))
		b := sample(n)
		sealed := [][]byte{seal.Seal(key, usage, nonce, b), seal.Seal(key, usage, nonce, b)}
		clear(b)
		for _, s := range sealed {
			if !bytes.Equal(s, want) {
				t.Errorf("the sealed string of %d bytes was changed to %x", n, s)
			}
			clear(s[:cap(s)])
		}
		s := bytes.Clone(want)
		one, _ := seal.Open(key, usage, s)
		two, _ := seal.Open(key, usage, s)
		clear(s)
		s = bytes.Clone(want)
		for _, got := range [][]byte{one, two} {
			if !bytes.Equal(got, sample(n)) {
				t.Errorf("%d opened bytes were changed to %x", n, got)
			}
			clear(got[:cap(got)])
		}
		three, _ := seal.Open(key, usage, s)
		clear(three[:cap(three)])
		if !bytes.Equal(s, want) {
			t.Errorf("the sealed string of %d bytes was changed with the result", n)
		}
		checkAll(t, key, usage, nonce, sample(n), want)
	}
}

// TestAgain: rules 7 and 8; nothing is left of earlier calls, and calls at the same time do not meet.
func TestAgain(t *testing.T) {
	var group sync.WaitGroup
	for i := range 8 {
		group.Go(func() {
			key, nonce, usage := [16]byte{byte(i)}, [8]byte{7: byte(i)}, byte(i)
			for j := range 20 {
				b := sample(10*i + j)
				s := seal.Seal(key, usage, nonce, b)
				got, ok := seal.Open(key, usage, s)
				if !bytes.Equal(s, sealedOf(key, usage, nonce, b)) || !bytes.Equal(got, b) || !ok {
					t.Errorf("the key %d: another sealed string beside other calls", i)
				}
				if got, ok := seal.Open(key, usage+1, s); len(got) != 0 || ok {
					t.Errorf("the key %d: another usage opens beside other calls", i)
				}
			}
		})
	}
	group.Wait()
}
