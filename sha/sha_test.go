package sha_test

import (
	"bytes"
	"encoding/hex"
	"math"
	"math/big"
	"math/rand"
	"strings"
	"sync"
	"testing"

	"toll/sha"
)

// primes are the first 64 prime numbers; squares and cubes are the bits of their roots.
var (
	primes  = firstPrimes(64)
	squares = rootsBits(2)
	cubes   = rootsBits(3)
)

// edges are the lengths at and around the limits of blocks and of their padding.
var edges = []int{0, 1, 54, 55, 56, 57, 62, 63, 64, 65, 66, 118, 119, 120, 121, 127, 128, 129, 183, 184, 191, 192, 193}

// firstPrimes returns the first n prime numbers.
func firstPrimes(n int) []int64 {
	var l []int64
next:
	for x := int64(2); len(l) < n; x++ {
		for _, p := range l {
			if x%p == 0 {
				continue next
			}
		}
		l = append(l, x)
	}
	return l
}

// rootBits returns the first 32 bits after the point of the k-th root of p. They are found one by one: 32 bits after the point of a root are 32*k bits after that of its power.
func rootBits(p, k int64) uint32 {
	limit := new(big.Int).Lsh(big.NewInt(p), uint(32*k))
	root := new(big.Int)
	for i := 40; i >= 0; i-- {
		x := new(big.Int).SetBit(root, i, 1)
		if new(big.Int).Exp(x, big.NewInt(k), nil).Cmp(limit) <= 0 {
			root = x
		}
	}
	return uint32(root.Uint64())
}

// rootsBits returns the first 32 bits after the points of the k-th roots of all primes.
func rootsBits(k int64) []uint32 {
	var l []uint32
	for _, p := range primes {
		l = append(l, rootBits(p, k))
	}
	return l
}

// turn rotates a word of 32 bits in a way of its own.
func turn(x uint64, n int) uint64 {
	return (x | x<<32) >> n % (1 << 32)
}

// choose takes each bit from f where e has a 1, and from g where e has a 0.
func choose(e, f, g uint64) uint64 {
	var x uint64
	for i := range 32 {
		from := g
		if e>>i&1 == 1 {
			from = f
		}
		x |= from & (1 << i)
	}
	return x
}

// majority takes the bits that most of the words have.
func majority(a, b, c uint64) uint64 {
	var x uint64
	for i := range 32 {
		if a>>i&1+b>>i&1+c>>i&1 >= 2 {
			x |= 1 << i
		}
	}
	return x
}

// change finds the state after a block in a way of its own: with words of 64 bits, of which remainders are taken.
func change(state [8]uint32, block [64]byte) [8]uint32 {
	var w []uint64
	for i := range 16 {
		w = append(w, new(big.Int).SetBytes(block[4*i:4*i+4]).Uint64())
	}
	for i := 16; i < 64; i++ {
		x, y := w[i-15], w[i-2]
		w = append(w, (w[i-16]+(turn(x, 7)^turn(x, 18)^x/8)+w[i-7]+(turn(y, 17)^turn(y, 19)^y/1024))%(1<<32))
	}
	var s [8]uint64
	for i, x := range state {
		s[i] = uint64(x)
	}
	for i, k := range cubes {
		t := s[7] + (turn(s[4], 6) ^ turn(s[4], 11) ^ turn(s[4], 25)) + choose(s[4], s[5], s[6]) + uint64(k) + w[i]
		u := (turn(s[0], 2) ^ turn(s[0], 13) ^ turn(s[0], 22)) + majority(s[0], s[1], s[2])
		copy(s[1:], s[:7])
		s[0], s[4] = (t+u)%(1<<32), (s[4]+t)%(1<<32)
	}
	for i, x := range s {
		state[i] = uint32((uint64(state[i]) + x) % (1 << 32))
	}
	return state
}

// pad writes the padding of n bytes in a way of its own.
func pad(n int) []byte {
	b := []byte{128}
	for (n+len(b)+8)%64 != 0 {
		b = append(b, 0)
	}
	length := new(big.Int).Mul(big.NewInt(int64(n)), big.NewInt(8))
	return append(b, length.FillBytes(make([]byte, 8))...)
}

// digest finds the digest of bytes in a way of its own: from all blocks, which are there at once.
func digest(b []byte) [32]byte {
	state := [8]uint32(squares[:8])
	all := append(bytes.Clone(b), pad(len(b))...)
	for len(all) > 0 {
		state = change(state, [64]byte(all[:64]))
		all = all[64:]
	}
	var d [32]byte
	for i, x := range state {
		big.NewInt(int64(x)).FillBytes(d[4*i : 4*i+4])
	}
	return d
}

// sample returns n bytes that no shift of them equals.
func sample(n int) []byte {
	b := make([]byte, n)
	for i := range b {
		b[i] = byte(7*i + i/256)
	}
	return b
}

// filled returns a block and a state of the same bytes.
func filled(x byte) ([64]byte, [8]uint32) {
	block, state := [64]byte{}, [8]uint32{}
	for i := range block {
		block[i] = x
	}
	for i := range state {
		state[i] = 0x01010101 * uint32(x)
	}
	return block, state
}

// checkSum checks the digest of parts.
func checkSum(t *testing.T, what string, want [32]byte, parts ...[]byte) {
	t.Helper()
	if got := sha.Sum(parts...); got != want {
		t.Errorf("%s: the digest is %x, not %x", what, got, want)
	}
}

// TestSumKnown: P4.1; digests that are known from the standard, or that other programs make.
func TestSumKnown(t *testing.T) {
	for _, x := range []struct {
		name string
		b    []byte
		want string
	}{
		{"nothing", nil, "e3b0c44298fc1c149afbf4c8996fb92427ae41e4649b934ca495991b7852b855"},
		{"abc", []byte("abc"), "ba7816bf8f01cfea414140de5dae2223b00361a396177a9cb410ff61f20015ad"},
		{"56 letters", []byte("abcdbcdecdefdefgefghfghighijhijkijkljklmklmnlmnomnopnopq"), "248d6a61d20638b8e5c026930c3e6039a33ce45964ff2167f6ecedd419db06c1"},
		{"a million", bytes.Repeat([]byte{'a'}, 1000000), "cdc76e5c9914fb9281a1c7e284d73e67f1809a48a497200e046d39ccc7112cd0"},
		{"1 byte", sample(1), "6e340b9cffb37a989ca544e6bb780a2c78901d3fb33738768511a30617afa01d"},
		{"55 bytes", sample(55), "576a1bf8d4478657e6dc4af9398544765c2a92cde28478b019235cfed315fc09"},
		{"56 bytes", sample(56), "9b20501dfd1d99161c257950f3444f3e49230c351c5c8e0943ef369f85f5205d"},
		{"63 bytes", sample(63), "30b345906b493f06f69444b6521113511c242f30e29840462950035043682f1e"},
		{"64 bytes", sample(64), "d8bc63b4fc1156e5e7d95a418b9bf54cd3174bedbc2db40f74895349b229b3c0"},
		{"65 bytes", sample(65), "1ee23b0fbcaecc1aff4a9e8f1645f35ab2c8e13609cd73b68df8b5e3f63ce073"},
		{"119 bytes", sample(119), "7a6589821178918ca8d9edaba5abfc1e9b2669564f4469b66885379c1530b2c8"},
		{"120 bytes", sample(120), "655250427d56b1b0eeb8497d21428704273458a01772d6881b65c0abac0f8a98"},
		{"127 bytes", sample(127), "67d79933e3c9aa8e89f481e071cfca1e9a16c09d7263b5efa3bb01f1a9f8d065"},
		{"128 bytes", sample(128), "54c9eb041badfd7064645067b107661fed6113197ce2dd066ba69618abd3732f"},
		{"129 bytes", sample(129), "5b55715b51c54661ed0cbd75ba5b00cf1ffee3b7c113a636eca613d9425116a6"},
		{"4096 bytes", sample(4096), "d24ac44c83cce842b67a82d2f77bcbe5e41dbd555605c92832d609e29c5a997c"},
		{"2^22 bytes", sample(1 << 22), "04ac01bf62aafda524b0e948f4c2f2d7448e3f2c8cf9e73d0b50c57bb84dae52"},
	} {
		want, err := hex.DecodeString(x.want)
		if err != nil {
			t.Fatal(err)
		}
		checkSum(t, x.name, [32]byte(want), x.b)
		if len(x.b) < 5000 && digest(x.b) != [32]byte(want) {
			t.Errorf("%s: the digest of the test itself is %x", x.name, digest(x.b))
		}
	}
}

// TestSumNothing: P4.1; there are several ways to give no bytes.
func TestSumNothing(t *testing.T) {
	want := digest(nil)
	checkSum(t, "no part", want)
	checkSum(t, "no part of nil", want, nil...)
	checkSum(t, "no part of an empty list", want, [][]byte{}...)
	checkSum(t, "a nil part", want, nil)
	checkSum(t, "an empty part", want, []byte{})
	checkSum(t, "parts without bytes", want, nil, []byte{}, nil, make([]byte, 0, 80))
}

// TestSumLengths: P4.1.
func TestSumLengths(t *testing.T) {
	for n := range 260 {
		for _, b := range [][]byte{sample(n), make([]byte, n), bytes.Repeat([]byte{0xff}, n), bytes.Repeat([]byte{0x80}, n)} {
			checkSum(t, "some bytes", digest(b), b)
		}
	}
}

// TestSumOrder: P4.1; the parts are taken in order.
func TestSumOrder(t *testing.T) {
	a, b := []byte("ab"), sample(64)
	checkSum(t, "a and b", digest(append(bytes.Clone(a), b...)), a, b)
	checkSum(t, "b and a", digest(append(bytes.Clone(b), a...)), b, a)
	if sha.Sum(a, b) == sha.Sum(b, a) {
		t.Error("the order of the parts does not matter")
	}
}

// TestSumOnlyBytes: P4.1; the capacity behind a part does not belong to it.
func TestSumOnlyBytes(t *testing.T) {
	b := sample(200)
	for _, n := range edges {
		checkSum(t, "the first bytes of more", digest(b[:n]), b[:n])
	}
}

// TestArgumentsStay: rule 5; the bytes and the unused capacity behind them stay as they are.
func TestArgumentsStay(t *testing.T) {
	b := sample(400)
	for _, n := range edges {
		parts := [][]byte{b[:n], b[n : n+10], nil, b[300:]}
		sha.Sum(parts[:2]...)
		if !bytes.Equal(b, sample(400)) {
			t.Fatalf("a part of %d bytes was changed", n)
		}
		if len(parts[0]) != n || len(parts[1]) != 10 || parts[2] != nil || len(parts[3]) != 100 {
			t.Fatalf("the list of parts was changed: %v", parts)
		}
	}
}

// TestSumAgain: rules 7 and 8; nothing is left of earlier calls, and calls at the same time do not meet.
func TestSumAgain(t *testing.T) {
	var group sync.WaitGroup
	for i := range 8 {
		group.Go(func() {
			for j := range 40 {
				b := sample(30*i + j)
				if sha.Sum(b) != digest(b) {
					t.Errorf("%d bytes, beside other calls: %x", len(b), sha.Sum(b))
				}
			}
		})
	}
	group.Wait()
}

// TestStart: P4.2.
func TestStart(t *testing.T) {
	start := sha.Start()
	for i, got := range start {
		if got != squares[i] {
			t.Errorf("word %d of the start is %08x, not %08x", i, got, squares[i])
		}
	}
	if start[0] != 0x6a09e667 || start[7] != 0x5be0cd19 {
		t.Errorf("the start is %08x", start)
	}
	sha.Sum([]byte("abc"))
	if sha.Start() != start {
		t.Errorf("the start was changed to %08x", sha.Start())
	}
}

// TestConstants: P4.2.
func TestConstants(t *testing.T) {
	for i, want := range cubes {
		if got, ok := sha.Constant(i); !ok || got != want {
			t.Errorf("constant %d is %08x, %v, not %08x", i, got, ok, want)
		}
	}
	for i, want := range map[int]uint32{0: 0x428a2f98, 1: 0x71374491, 2: 0xb5c0fbcf, 62: 0xbef9a3f7, 63: 0xc67178f2} {
		if got, _ := sha.Constant(i); got != want {
			t.Errorf("constant %d is %08x, not %08x", i, got, want)
		}
	}
}

// TestNoConstant: P4.2.
func TestNoConstant(t *testing.T) {
	for _, i := range []int{math.MinInt, math.MinInt32, -65, -64, -63, -2, -1, 64, 65, 66, 127, 128, 256, math.MaxInt32, 1 << 32, 1<<32 + 1, math.MaxInt} {
		if got, ok := sha.Constant(i); got != 0 || ok {
			t.Errorf("Constant(%d) returns %08x, %v", i, got, ok)
		}
	}
}

// TestBlockKnown: P4.2; blocks and states with no bit and with all bits set, as other programs change them.
func TestBlockKnown(t *testing.T) {
	zeroBlock, zeroState := filled(0)
	fullBlock, fullState := filled(0xff)
	for i, x := range []struct {
		state [8]uint32
		block [64]byte
		want  [8]uint32
	}{
		{zeroState, zeroBlock, [8]uint32{0x7ca51614, 0x425c3ba8, 0xce54dd2f, 0xc2020ae7, 0xb6e574d1, 0x98136d0f, 0xae7e26cc, 0xbf0be7a6}},
		{zeroState, fullBlock, [8]uint32{0x5081b30e, 0xfa9924a2, 0x8412d8aa, 0x28bb0c93, 0xda147a5a, 0xd8e1f92b, 0x5af1210d, 0x57081603}},
		{fullState, zeroBlock, [8]uint32{0x25260809, 0x56c94ba8, 0xe7d6dd48, 0x222df1d3, 0xf914c4b0, 0xb823beb6, 0xe8cebb7a, 0xddcdff59}},
		{fullState, fullBlock, [8]uint32{0x0598127a, 0xaf11706e, 0x77401fff, 0xd730c549, 0x0b84c867, 0xa98c6ca3, 0xd7f3c0f9, 0x06a78b79}},
		{sha.Start(), zeroBlock, [8]uint32{0xda5698be, 0x17b9b469, 0x62335799, 0x779fbeca, 0x8ce5d491, 0xc0d26243, 0xbafef9ea, 0x1837a9d8}},
		{sha.Start(), fullBlock, [8]uint32{0xef0c748d, 0xf4da50a8, 0xd6c43c01, 0x3edc3ce7, 0x6c9d9fa9, 0xa1458ade, 0x56eb86c0, 0xa64492d2}},
	} {
		if got := sha.Block(x.state, x.block); got != x.want {
			t.Errorf("case %d: the state is %08x, not %08x", i, got, x.want)
		}
		if got := change(x.state, x.block); got != x.want {
			t.Errorf("case %d: the state of the test itself is %08x, not %08x", i, got, x.want)
		}
	}
}

// TestBlockBits: P4.2; each bit of a state and of a block, alone, and missing alone.
func TestBlockBits(t *testing.T) {
	for _, x := range []byte{0, 0xff} {
		block, state := filled(x)
		for i := range 256 {
			other := state
			other[i/32] ^= 1 << (i % 32)
			if got, want := sha.Block(other, block), change(other, block); got != want {
				t.Errorf("bit %d of a state: %08x, not %08x", i, got, want)
			}
		}
		for i := range 512 {
			other := block
			other[i/8] ^= 1 << (i % 8)
			if got, want := sha.Block(state, other), change(state, other); got != want {
				t.Errorf("bit %d of a block: %08x, not %08x", i, got, want)
			}
		}
	}
}

// TestBlockMany: P4.2.
func TestBlockMany(t *testing.T) {
	source := rand.New(rand.NewSource(1))
	for range 500 {
		var state [8]uint32
		var block [64]byte
		source.Read(block[:])
		for i := range state {
			state[i] = source.Uint32()
		}
		before, bytesBefore := state, block
		if got, want := sha.Block(state, block), change(state, block); got != want {
			t.Fatalf("Block(%08x, %x) returns %08x, not %08x", state, block, got, want)
		}
		if state != before || block != bytesBefore {
			t.Fatal("the arguments were changed")
		}
	}
}

// TestPadding: P4.2.
func TestPadding(t *testing.T) {
	for n, want := range map[int]string{
		0:       "80" + strings.Repeat("00", 63),
		55:      "80" + "00000000000001b8",
		56:      "80" + strings.Repeat("00", 63) + "00000000000001c0",
		63:      "80" + strings.Repeat("00", 56) + "00000000000001f8",
		64:      "80" + strings.Repeat("00", 55) + "0000000000000200",
		1 << 40: "80" + strings.Repeat("00", 55) + "0000080000000000",
	} {
		if got := hex.EncodeToString(sha.Padding(n)); got != want {
			t.Errorf("Padding(%d) returns %s, not %s", n, got, want)
		}
	}
	for n := range 1000 {
		if got := sha.Padding(n); !bytes.Equal(got, pad(n)) {
			t.Errorf("Padding(%d) returns %x", n, got)
		}
	}
	for i := 10; i <= 40; i++ {
		for n := 1<<i - 70; n <= min(1<<i+70, 1<<40); n++ {
			if got := sha.Padding(n); !bytes.Equal(got, pad(n)) {
				t.Errorf("Padding(%d) returns %x", n, got)
			}
		}
	}
}

// TestPaddingIsNew: P4.2 and rule 7; a change of a result is not seen in the next one.
func TestPaddingIsNew(t *testing.T) {
	for _, n := range edges {
		p := sha.Padding(n)
		for i := range p {
			p[i] = 0xa5
		}
		if got := sha.Padding(n); !bytes.Equal(got, pad(n)) {
			t.Errorf("Padding(%d) returns %x", n, got)
		}
	}
}

// TestStepByStep: P4.2; the digest is what the other functions make of the bytes.
func TestStepByStep(t *testing.T) {
	for _, n := range edges {
		all := append(sample(n), sha.Padding(n)...)
		state := sha.Start()
		for ; len(all) > 0; all = all[64:] {
			state = sha.Block(state, [64]byte(all[:64]))
		}
		d := sha.Sum(sample(n))
		for i, x := range state {
			if got := new(big.Int).SetBytes(d[4*i : 4*i+4]).Uint64(); got != uint64(x) {
				t.Errorf("%d bytes: word %d of the digest is %08x, not %08x", n, i, got, x)
			}
		}
	}
}

// TestTwoParts: P4.3; each place where bytes can be divided, also with parts of no bytes.
func TestTwoParts(t *testing.T) {
	for _, n := range edges {
		b := sample(n)
		want := digest(b)
		for i := range n + 1 {
			checkSum(t, "two parts", want, b[:i], b[i:])
			checkSum(t, "two parts among empty ones", want, nil, b[:i], []byte{}, nil, b[i:], nil)
		}
	}
}

// TestEqualParts: P4.3; parts of one size each, from single bytes to more than a block.
func TestEqualParts(t *testing.T) {
	b := sample(500)
	want := digest(b)
	for size := 1; size <= 200; size++ {
		var parts [][]byte
		for rest := b; len(rest) > 0; {
			n := min(size, len(rest))
			parts = append(parts, rest[:n])
			rest = rest[n:]
		}
		checkSum(t, "parts of one size", want, parts...)
	}
}

// TestManyParts: P4.3.
func TestManyParts(t *testing.T) {
	source := rand.New(rand.NewSource(2))
	for range 300 {
		b := make([]byte, source.Intn(600))
		source.Read(b)
		want := digest(b)
		var parts [][]byte
		for rest := b; len(rest) > 0; {
			n := source.Intn(min(len(rest), 1<<source.Intn(9)) + 1)
			parts = append(parts, rest[:n])
			rest = rest[n:]
		}
		checkSum(t, "many parts", want, parts...)
	}
}

// TestLargeParts: P4.3; as many bytes as there may be.
func TestLargeParts(t *testing.T) {
	b := sample(1 << 22)
	want := sha.Sum(b)
	for _, i := range []int{1, 63, 64, 65, 1 << 21, 1<<22 - 64, 1<<22 - 1} {
		checkSum(t, "two large parts", want, b[:i], b[i:])
	}
	var parts [][]byte
	for i := range 1 << 16 {
		parts = append(parts, b[64*i:64*i+10], b[64*i+10:64*i+64])
	}
	checkSum(t, "2^17 parts", want, parts...)
}
