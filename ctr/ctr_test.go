package ctr_test

import (
	"bytes"
	"encoding/hex"
	"math"
	"math/rand"
	"sync"
	"testing"

	"toll/aes"
	"toll/ctr"
	"toll/sha"
)

// The limits of the chapter.
const (
	maxStart = 1 << 40
	maxBytes = 1 << 20
)

// key and nonce are those of most tests.
var (
	key   = [16]byte{0, 1, 2, 3, 4, 5, 6, 7, 8, 9, 10, 11, 12, 13, 14, 15}
	nonce = [8]byte{0xa0, 0xa1, 0xa2, 0xa3, 0xa4, 0xa5, 0xa6, 0xa7}
)

// known are blocks of streams: those of SP 800-38A (F.5.1), and those that OpenSSL makes of zero bytes, of great numbers and of random keys.
var known = []struct {
	key, nonce string
	i          uint64
	want       string
}{
	{"2b7e151628aed2a6abf7158809cf4f3c", "f0f1f2f3f4f5f6f7", 0xf8f9fafbfcfdfeff, "ec8cdf7398607cb0f2d21675ea9ea1e4"},
	{"2b7e151628aed2a6abf7158809cf4f3c", "f0f1f2f3f4f5f6f7", 0xf8f9fafbfcfdff00, "362b7c3c6773516318a077d7fc5073ae"},
	{"2b7e151628aed2a6abf7158809cf4f3c", "f0f1f2f3f4f5f6f7", 0xf8f9fafbfcfdff01, "6a2cc3787889374fbeb4c81b17ba6c44"},
	{"2b7e151628aed2a6abf7158809cf4f3c", "f0f1f2f3f4f5f6f7", 0xf8f9fafbfcfdff02, "e89c399ff0f198c6d40a31db156cabfe"},
	{"00000000000000000000000000000000", "0000000000000000", 0x0, "66e94bd4ef8a2c3b884cfa59ca342b2e"},
	{"00000000000000000000000000000000", "0000000000000000", 0x1, "58e2fccefa7e3061367f1d57a4e7455a"},
	{"00000000000000000000000000000000", "0000000000000000", 0xff, "f70ddef93ba62588242a0e67d0d645e0"},
	{"00000000000000000000000000000000", "0000000000000000", 0x100, "fb56cc09b680b1d07c5a52149e29f07c"},
	{"00000000000000000000000000000000", "0000000000000000", 0xffffffffffffffff, "747cb9267e59fa9e4e615668db0909bc"},
	{"00000000000000000000000000000000", "ffffffffffffffff", 0x0, "f807c3e7985fe0f5a50e2cdb25c5109e"},
	{"00000000000000000000000000000000", "ffffffffffffffff", 0xffffffffffffffff, "3f5b8cc9ea855a0afa7347d23e8d664e"},
	{"ffffffffffffffffffffffffffffffff", "0000000000000001", 0x0, "70ec16a0a9fcf0d8cd01f848edadd0ba"},
	{"ffffffffffffffffffffffffffffffff", "0100000000000000", 0x0, "2060b29484f017e238f2405b99001c01"},
	{"3365093ae54fd35ea7f758f66c361860", "d1385720a6177031", 0x102030405060708, "abc5795ec76f6f5cc5ff0a5f457707b3"},
	{"dae16eb4b010350ba1b3ce15d2240823", "d44a583f1000afcf", 0xffff, "6d312c572e8eb2cb343a6af509a9d1f2"},
	{"5ce3c6ffb3d5a08148159b3529f29466", "6c7d51a47154c107", 0x10000, "113d257072f16a807980f0b5444510d6"},
	{"4aca8975e961c67cb47c0074a85df663", "822fb77ead50b892", 0xffffffff, "57e3fe751e6e5e54871fe2b203af0de9"},
	{"400a36313806b8e5c10a9dd490481667", "d4c5ed16d07a2f7c", 0x100000000, "0159e45e5488c2bccab0f9d8e12b4a0d"},
	{"146af33ba86a4fc270261e0522577fb3", "42df4a44ba5f2a85", 0xfffffffff, "e42a97343216d405227a90e53d874989"},
	{"afa85c68c43b6d7980afede679aa41e9", "31160b614b43dbb9", 0x1000000000, "e383be146603ed1e6d0d873e2e9ab0f9"},
	{"4f781d1deae3b7a956aa234293f3df18", "8da7d9fd1a8c71d0", 0x7fffffffffffffff, "28a9b922dcec39c47c96d7bb86cafa1c"},
	{"70942610d317e962c153c39ea3395cd4", "05849060431f941b", 0x8000000000000000, "89a6531a691718b72b76643fb10d36c6"},
	{"a3042da9eca4dc0e57e9a35667e5023c", "0613f9b0c4b10716", 0xfffffffffffffffe, "9fb4c52308ff2e4507548a798140a867"},
}

// text is longer than three blocks and ends inside the fourth one; crypted is what OpenSSL makes of it.
const (
	text    = "A request is accepted once, whatever lies between."
	crypted = "9a08e6f94fd8d813132b959c0d011aac059646ff3344c9d8788363db49bcda1edd59480faf416fab60d736bb3b081ef05fe6"
)

// longStreams are the streams of as many bytes as there may be: from the first start and from the last one, with their first and last bytes and their digests, as OpenSSL makes them.
var longStreams = []struct {
	at                int
	first, last, full string
}{
	{0, "db28949c3eadbd60670bfcef2d6079cf60e6329a5764a6b61be64ffb3ed4bb6ab8", "2f4632da134ec787837f1f935ee5f3f584", "1f6ecd879a2e3d6c1b6fb9f8a65f238b07754bcad71cd93c640fe7c09d280022"},
	{maxStart, "d9e6496de7c17fa96077d0b17021c579d6fb586fa74825c870df608578e60e6b2a", "5d1bcbc97229698f660ceba192568506a0", "0d4da713690506a91563997491929d9b241a7f7475a5317f9b5e73f393179286"},
}

// around is the stream from 2^40 - 16 to 2^40 + 32, as OpenSSL makes it.
const around = "b2d1d4c93fbcb0bba8474efdbb9e6fb7d9e6496de7c17fa96077d0b17021c579d6fb586fa74825c870df608578e60e6b"

// sizes are the lengths of bytes at and around those of one, two and three blocks, and more.
var sizes = []int{0, 1, 2, 7, 8, 15, 16, 17, 31, 32, 33, 47, 48, 49, 63, 64, 65, 100, 255, 256, 257}

// sample returns n bytes, of which each shorter sample is the beginning.
func sample(n int) []byte {
	b := make([]byte, n)
	for i := range b {
		b[i] = byte(5*i + i*i/37 + 3)
	}
	return b
}

// decoded returns the bytes of a text of hexadecimal digits.
func decoded(t *testing.T, s string) []byte {
	t.Helper()
	b, err := hex.DecodeString(s)
	if err != nil {
		t.Fatal(err)
	}
	return b
}

// streamOf returns the beginning of a stream in a way of its own: whole blocks of a nonce and a number that is counted up byte by byte.
func streamOf(key [16]byte, nonce [8]byte, n int) []byte {
	var block [16]byte
	copy(block[:], nonce[:])
	var all []byte
	for len(all) < n {
		e := aes.Encrypt(key, block)
		all = append(all, e[:]...)
		for k := 15; k >= 8; k-- {
			block[k]++
			if block[k] != 0 {
				break
			}
		}
	}
	return all[:n]
}

// xored returns the exclusive or of b and the first bytes of a stream.
func xored(b, stream []byte) []byte {
	result := make([]byte, len(b))
	for i := range b {
		result[i] = b[i] ^ stream[i]
	}
	return result
}

// checkStream checks a part of the stream of key and nonce.
func checkStream(t *testing.T, at, n int, want []byte) {
	t.Helper()
	if got := ctr.Stream(key, nonce, at, n); !bytes.Equal(got, want) {
		t.Errorf("Stream(%d, %d) returns %x, not %x", at, n, got, want)
	}
}

// checkNext checks what a cipher makes of bytes, and how many it has used behind them.
func checkNext(t *testing.T, c *ctr.Cipher, b, want []byte, used int) {
	t.Helper()
	if got := c.Next(b); !bytes.Equal(got, want) {
		t.Errorf("Next(%x) returns %x, not %x", b, got, want)
	}
	if got := c.Used(); got != used {
		t.Errorf("behind %d bytes, Used returns %d, not %d", len(b), got, used)
	}
}

// checkDivided checks that a cipher that is given b in parts of these lengths, and then the rest of it, makes what Crypt makes of b.
func checkDivided(t *testing.T, b []byte, lengths ...int) {
	t.Helper()
	want := xored(b, streamOf(key, nonce, len(b)))
	c := ctr.New(key, nonce)
	at := 0
	for _, n := range append(lengths, len(b)) {
		end := min(at+n, len(b))
		checkNext(t, c, b[at:end], want[at:end], end)
		at = end
	}
	if got := ctr.Crypt(key, nonce, b); !bytes.Equal(got, want) {
		t.Errorf("Crypt(%x) returns %x, not %x", b, got, want)
	}
}

// TestExample: P8.1 to P8.3; the example of the chapter.
func TestExample(t *testing.T) {
	want := []byte{0x66, 0xe9, 0x4b}
	block := ctr.Block([16]byte{}, [8]byte{}, 0)
	for i, got := range [][]byte{
		block[:3],
		ctr.Stream([16]byte{}, [8]byte{}, 0, 3),
		ctr.Crypt([16]byte{}, [8]byte{}, make([]byte, 3)),
		ctr.New([16]byte{}, [8]byte{}).Next(make([]byte, 3)),
	} {
		if !bytes.Equal(got, want) {
			t.Errorf("the stream begins with %x in case %d", got, i)
		}
	}
}

// TestBlockKnown: P8.1; blocks of the standard and of another program, up to the greatest number.
func TestBlockKnown(t *testing.T) {
	for _, x := range known {
		key, nonce := [16]byte(decoded(t, x.key)), [8]byte(decoded(t, x.nonce))
		if got := ctr.Block(key, nonce, x.i); !bytes.Equal(got[:], decoded(t, x.want)) {
			t.Errorf("Block(%s, %s, %#x) returns %x, not %s", x.key, x.nonce, x.i, got, x.want)
		}
	}
}

// TestBlockNumbers: P8.1; each bit of a number and of a nonce has its place in the block that is encrypted.
func TestBlockNumbers(t *testing.T) {
	for bit := range 64 {
		var counter [16]byte
		counter[15-bit/8] = 1 << (bit % 8)
		if got, want := ctr.Block(key, [8]byte{}, 1<<bit), aes.Encrypt(key, counter); got != want {
			t.Errorf("the block 2^%d is %x, not %x", bit, got, want)
		}
		var one [8]byte
		one[bit/8] = 1 << (bit % 8)
		counter = [16]byte{}
		copy(counter[:], one[:])
		if got, want := ctr.Block(key, one, 0), aes.Encrypt(key, counter); got != want {
			t.Errorf("the first block of the nonce %x is %x, not %x", one, got, want)
		}
	}
}

// TestBlockStream: P8.1; blocks are the stream from 16*i on.
func TestBlockStream(t *testing.T) {
	stream := streamOf(key, nonce, 16*600) // the number has two bytes from 256 on
	for i := range 600 {
		block := ctr.Block(key, nonce, uint64(i))
		if !bytes.Equal(block[:], stream[16*i:16*i+16]) {
			t.Errorf("the block %d is %x", i, block)
		}
		checkStream(t, 16*i, 16, block[:])
	}
}

// TestStream: P8.1; all parts of some blocks, that begin and end at each byte of them.
func TestStream(t *testing.T) {
	stream := streamOf(key, nonce, 100)
	for at := range 51 {
		for n := range 50 {
			checkStream(t, at, n, stream[at:at+n])
		}
	}
}

// TestStreamLater: P8.1; parts of many blocks, and those at the numbers where a second byte of the counter begins.
func TestStreamLater(t *testing.T) {
	stream := streamOf(key, nonce, 16*520)
	for _, at := range []int{0, 15, 16, 16*255 - 1, 16 * 255, 16*256 - 1, 16 * 256, 16*256 + 1, 16*512 - 17} {
		for _, n := range []int{0, 1, 15, 16, 17, 33, 16*520 - at} {
			checkStream(t, at, n, stream[at:at+n])
		}
	}
}

// TestStreamLong: P8.1; as many bytes as there may be, from the first start and from the last one.
func TestStreamLong(t *testing.T) {
	for _, x := range longStreams {
		b := ctr.Stream(key, nonce, x.at, maxBytes)
		if len(b) != maxBytes {
			t.Fatalf("%d bytes from %d on", len(b), x.at)
		}
		full := sha.Sum(b)
		if !bytes.Equal(b[:33], decoded(t, x.first)) || !bytes.Equal(b[maxBytes-17:], decoded(t, x.last)) || !bytes.Equal(full[:], decoded(t, x.full)) {
			t.Errorf("the stream from %d on is %x .. %x, with the digest %x", x.at, b[:33], b[maxBytes-17:], full)
		}
	}
}

// TestStreamFar: P8.1; all starts up to the last one, and none behind it.
func TestStreamFar(t *testing.T) {
	stream := decoded(t, around)
	for i := range 17 {
		for n := range len(stream) - i + 1 {
			checkStream(t, maxStart-16+i, n, stream[i:i+n])
		}
	}
	for n := range 20 {
		checkStream(t, maxStart+1, n, nil)
	}
}

// TestStreamOutside: P8.1; there is nothing below 0 and above the limits.
func TestStreamOutside(t *testing.T) {
	low := []int{math.MinInt, math.MinInt32, -1 << 40, -1 << 20, -17, -16, -15, -1}
	for _, at := range append([]int{maxStart + 1, maxStart + 16, 1 << 41, 1 << 60, math.MaxInt - 1, math.MaxInt}, low...) {
		for _, n := range []int{0, 1, 16, 17, 1000} {
			checkStream(t, at, n, nil)
		}
	}
	for _, n := range append([]int{maxBytes + 1, maxBytes + 16, 1 << 21, 1 << 40, math.MaxInt - 1, math.MaxInt}, low...) {
		for _, at := range []int{math.MinInt, -1, 0, 1, 15, 16, maxStart, maxStart + 1, math.MaxInt} {
			checkStream(t, at, n, nil)
		}
	}
}

// TestMatters: P8.1; the key, the nonce and the number of a block matter.
func TestMatters(t *testing.T) {
	seen := map[[16]byte]string{}
	see := func(what string, key [16]byte, nonce [8]byte, i uint64) {
		block := ctr.Block(key, nonce, i)
		if other, ok := seen[block]; ok {
			t.Errorf("%s has the block of %s", what, other)
		}
		seen[block] = what
	}
	see("nothing", key, nonce, 0)
	for i := range 16 {
		changed := key
		changed[i] ^= 1
		see("another key", changed, nonce, 0)
	}
	for i := range 8 {
		changed := nonce
		changed[i] ^= 0x80
		see("another nonce", key, changed, 0)
	}
	for bit := range 64 {
		see("another number", key, nonce, 1<<bit)
	}
}

// TestCryptKnown: P8.2 and P8.4; what another program makes of a text, and all beginnings of it.
func TestCryptKnown(t *testing.T) {
	want := decoded(t, crypted)
	for n := range len(text) + 1 {
		if got := ctr.Crypt(key, nonce, []byte(text[:n])); !bytes.Equal(got, want[:n]) {
			t.Errorf("Crypt(%q) returns %x, not %x", text[:n], got, want[:n])
		}
		if got := ctr.Crypt(key, nonce, want[:n]); string(got) != text[:n] {
			t.Errorf("Crypt(%x) returns %q, not %q", want[:n], got, text[:n])
		}
	}
}

// TestCrypt: P8.2 and P8.4; bytes of many lengths, under several keys and nonces; Crypt inverts itself.
func TestCrypt(t *testing.T) {
	source := rand.New(rand.NewSource(8))
	for _, n := range sizes {
		for range 5 {
			var key [16]byte
			var nonce [8]byte
			source.Read(key[:])
			source.Read(nonce[:])
			b := make([]byte, n)
			source.Read(b)
			got := ctr.Crypt(key, nonce, b)
			if want := xored(b, streamOf(key, nonce, n)); !bytes.Equal(got, want) {
				t.Errorf("Crypt(%x, %x, %x) returns %x, not %x", key, nonce, b, got, want)
			}
			if back := ctr.Crypt(key, nonce, got); !bytes.Equal(back, b) {
				t.Errorf("Crypt(%x, %x, %x) returns %x, not %x", key, nonce, got, back, b)
			}
		}
	}
}

// TestCryptNothing: P8.2; nil is a way to give no bytes.
func TestCryptNothing(t *testing.T) {
	for _, b := range [][]byte{nil, {}, make([]byte, 0, 40), sample(20)[20:]} {
		if got := ctr.Crypt(key, nonce, b); len(got) != 0 {
			t.Errorf("Crypt of nothing returns %x", got)
		}
	}
}

// TestCryptLong: P8.2 to P8.4; as many bytes as there may be, at once and in two parts.
func TestCryptLong(t *testing.T) {
	b := sample(maxBytes)
	got := ctr.Crypt(key, nonce, b)
	if len(got) != maxBytes {
		t.Fatalf("Crypt returns %d bytes", len(got))
	}
	if full := sha.Sum(xored(b, got)); !bytes.Equal(full[:], decoded(t, longStreams[0].full)) {
		t.Errorf("Crypt combines with a stream with the digest %x", full)
	}
	c := ctr.New(key, nonce)
	checkNext(t, c, b[:5], got[:5], 5)
	if part := c.Next(b[5:]); !bytes.Equal(part, got[5:]) || c.Used() != maxBytes {
		t.Errorf("Next returns other bytes, or Used %d", c.Used())
	}
	checkNext(t, c, make([]byte, 40), ctr.Stream(key, nonce, maxBytes, 40), maxBytes+40)
}

// TestNextOnce: P8.3; a new cipher has used nothing and begins with the first byte.
func TestNextOnce(t *testing.T) {
	for _, n := range sizes {
		c := ctr.New(key, nonce)
		if c.Used() != 0 {
			t.Errorf("a new cipher has used %d bytes", c.Used())
		}
		b := sample(n)
		checkNext(t, c, b, xored(b, streamOf(key, nonce, n)), n)
	}
}

// TestNextTwice: P8.3 and P8.4; each place where bytes of some blocks can be divided, with parts of no bytes and without.
func TestNextTwice(t *testing.T) {
	b := sample(70)
	for i := range b {
		checkDivided(t, b, i)
		checkDivided(t, b, 0, i, 0, 0)
		checkDivided(t, b, i/2, 0, i-i/2)
	}
}

// TestNextEqual: P8.3 and P8.4; many parts of the same length.
func TestNextEqual(t *testing.T) {
	b := sample(200)
	for _, n := range []int{1, 2, 3, 5, 8, 15, 16, 17, 31, 32, 33, 100} {
		lengths := make([]int, len(b)/n)
		for i := range lengths {
			lengths[i] = n
		}
		checkDivided(t, b, lengths...)
	}
}

// TestNextRandom: P8.3 and P8.4; random parts.
func TestNextRandom(t *testing.T) {
	source := rand.New(rand.NewSource(9))
	for range 50 {
		b := make([]byte, source.Intn(400))
		source.Read(b)
		lengths := make([]int, source.Intn(20))
		for i := range lengths {
			lengths[i] = source.Intn(1 << source.Intn(7))
		}
		checkDivided(t, b, lengths...)
	}
}

// TestNextNothing: P8.3; no bytes use nothing, whatever was used before.
func TestNextNothing(t *testing.T) {
	for _, n := range sizes {
		c := ctr.New(key, nonce)
		c.Next(sample(n))
		for _, b := range [][]byte{nil, {}, make([]byte, 0, 40)} {
			checkNext(t, c, b, nil, n)
		}
		checkNext(t, c, make([]byte, 20), ctr.Stream(key, nonce, n, 20), n+20)
	}
}

// TestNextFar: P8.3; the number of a block has two bytes from 256 on.
func TestNextFar(t *testing.T) {
	stream := streamOf(key, nonce, 16*300)
	c := ctr.New(key, nonce)
	for at := 0; at < len(stream); {
		n := min(len(stream)-at, 1+at%23)
		checkNext(t, c, make([]byte, n), stream[at:at+n], at+n)
		at += n
	}
}

// TestNextInTurn: P8.3; two ciphers of the same key and nonce, and one of others, do not meet.
func TestNextInTurn(t *testing.T) {
	b := sample(200)
	other := [8]byte{1}
	stream, another := streamOf(key, nonce, 200), streamOf(key, other, 200)
	one, two, three := ctr.New(key, nonce), ctr.New(key, nonce), ctr.New(key, other)
	for i := range 10 {
		checkNext(t, one, b[7*i:7*i+7], xored(b[7*i:7*i+7], stream[7*i:]), 7*i+7)
		checkNext(t, two, b[17*i:17*i+17], xored(b[17*i:17*i+17], stream[17*i:]), 17*i+17)
		checkNext(t, three, b[16*i:16*i+16], xored(b[16*i:16*i+16], another[16*i:]), 16*i+16)
		ctr.Crypt(key, nonce, b)
		ctr.Stream(key, nonce, 3, 40)
	}
}

// TestNil: P8.3; a nil cipher.
func TestNil(t *testing.T) {
	var c *ctr.Cipher
	for _, n := range sizes {
		checkNext(t, c, sample(n), nil, 0)
	}
	checkNext(t, c, nil, nil, 0)
}

// TestUsed: P8.3; Used changes nothing.
func TestUsed(t *testing.T) {
	c := ctr.New(key, nonce)
	c.Next(sample(21))
	for range 3 {
		if got := c.Used(); got != 21 {
			t.Errorf("Used returns %d, not 21", got)
		}
	}
	checkNext(t, c, make([]byte, 20), ctr.Stream(key, nonce, 21, 20), 41)
}

// TestArgumentsStay: rule 5; bytes and the unused capacity behind them stay as they are.
func TestArgumentsStay(t *testing.T) {
	for _, n := range sizes {
		b := sample(400)
		ctr.Crypt(key, nonce, b[:n])
		c := ctr.New(key, nonce)
		c.Next(b[:n])
		c.Next(b[n : n+5])
		if !bytes.Equal(b, sample(400)) {
			t.Fatalf("%d bytes or those behind them were changed", n)
		}
	}
}

// TestResultsAreNew: rule 5; who changes a result, and appends to it, changes neither the argument nor another result, and who changes the argument, no result.
func TestResultsAreNew(t *testing.T) {
	stream := streamOf(key, nonce, 800)
	for _, n := range sizes {
		b := sample(n)
		c := ctr.New(key, nonce)
		results := [][]byte{ctr.Crypt(key, nonce, b), c.Next(b), c.Next(b), ctr.Stream(key, nonce, 0, n), ctr.Stream(key, nonce, 0, n)}
		clear(b)
		b = sample(n)
		wants := [][]byte{xored(b, stream), xored(b, stream), xored(b, stream[n:]), stream[:n], stream[:n]}
		for i, result := range results {
			if !bytes.Equal(result, wants[i]) {
				t.Errorf("the result %d of %d bytes was changed to %x", i, n, result)
			}
			clear(result[:cap(result)])
		}
		if !bytes.Equal(b, sample(n)) {
			t.Errorf("%d bytes were changed with the results", n)
		}
		checkNext(t, c, b, xored(b, stream[2*n:]), 3*n)
	}
}

// TestAgain: rules 7 and 8; nothing is left of earlier calls, and calls at the same time do not meet.
func TestAgain(t *testing.T) {
	var group sync.WaitGroup
	for i := range 8 {
		group.Go(func() {
			key, nonce := [16]byte{byte(i)}, [8]byte{7: byte(i)}
			stream := streamOf(key, nonce, 300)
			c := ctr.New(key, nonce)
			for j := range 20 {
				b := sample(10 + j)
				if !bytes.Equal(ctr.Crypt(key, nonce, b), xored(b, stream)) || !bytes.Equal(ctr.Stream(key, nonce, j, 50), stream[j:j+50]) {
					t.Errorf("the key %d: another stream beside other calls", i)
				}
				if got := c.Next(make([]byte, 14)); !bytes.Equal(got, stream[14*j:14*j+14]) || c.Used() != 14*j+14 {
					t.Errorf("the key %d: another cipher beside other calls", i)
				}
			}
		})
	}
	group.Wait()
}
