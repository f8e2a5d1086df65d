package crc_test

import (
	"bytes"
	"encoding/hex"
	"math"
	"math/rand"
	"os"
	"os/exec"
	"slices"
	"sync"
	"testing"

	"toll/crc"
)

// divisor is the polynomial of CRC-32C, with the coefficient of x^k as bit k.
const divisor = 0x11edc6f41

// digits are those whose checksum the chapter gives.
var digits = []byte("123456789")

// known are checksums that another program makes; those of 32 and 48 bytes are in RFC 3720, B.4.
var known = []struct {
	name string
	b    []byte
	want uint32
}{
	{"nothing", nil, 0},
	{"digits", digits, 0xe3069283},
	{"a letter", []byte("a"), 0xc1d04330},
	{"letters", []byte("abc"), 0x364b3fb7},
	{"a sentence", []byte("The quick brown fox jumps over the lazy dog"), 0x22620404},
	{"a zero", make([]byte, 1), 0x527d5351},
	{"4 zeros", make([]byte, 4), 0x48674bc7},
	{"32 zeros", make([]byte, 32), 0x8a9136aa},
	{"a byte 255", []byte{255}, 0xff000000},
	{"4 bytes 255", bytes.Repeat([]byte{255}, 4), 0xffffffff},
	{"32 bytes 255", bytes.Repeat([]byte{255}, 32), 0x62a8ab43},
	{"32 rising bytes", rising(32), 0x46dd794e},
	{"32 falling bytes", falling(32), 0x113fdb5c},
	{"all bytes", rising(256), 0x9c44184b},
	{"a command of iSCSI", []byte{1, 0xc0, 16: 20, 22: 4, 27: 20, 31: 24, 32: 40, 40: 2, 47: 0}, 0xd9963a56},
	{"1 byte", sample(1), 0xcbf4f86a},
	{"2 bytes", sample(2), 0xa9f7ab6b},
	{"3 bytes", sample(3), 0xc2778000},
	{"4 bytes", sample(4), 0x7202aa0f},
	{"5 bytes", sample(5), 0xf86b87ea},
	{"63 bytes", sample(63), 0xff3013a2},
	{"64 bytes", sample(64), 0x97132cb0},
	{"65 bytes", sample(65), 0xff97132c},
	{"1000 bytes", sample(1000), 0x9a762e8f},
	{"4096 bytes", sample(4096), 0xfe49f963},
	{"2^20 bytes", sample(1 << 20), 0xf3fc3ece},
}

// rising returns the bytes from 0 to n-1.
func rising(n int) []byte {
	b := make([]byte, n)
	for i := range b {
		b[i] = byte(i)
	}
	return b
}

// falling returns the bytes from n-1 to 0.
func falling(n int) []byte {
	b := rising(n)
	slices.Reverse(b)
	return b
}

// sample returns n bytes, of which each shorter sample is the beginning.
func sample(n int) []byte {
	b := make([]byte, n)
	for i := range b {
		b[i] = byte(7*i + i*i/31 + 11)
	}
	return b
}

// reversed returns a number with its bits in the opposite order.
func reversed(x uint32) uint32 {
	var y uint32
	for range 32 {
		y = y*2 + x%2
		x /= 2
	}
	return y
}

// sumOf finds a checksum in a way of its own: by the division of polynomials. The lowest bit of a byte is the coefficient of its highest power, and the first 32 coefficients are inverted.
func sumOf(b []byte) uint32 {
	var rest uint64
	for i := range 8*len(b) + 32 {
		var bit uint64
		if i < 8*len(b) {
			bit = uint64(b[i/8] >> (i % 8) & 1)
		}
		if i < 32 {
			bit = 1 - bit
		}
		rest = rest*2 + bit
		if rest >= 1<<32 {
			rest ^= divisor
		}
	}
	return math.MaxUint32 - reversed(uint32(rest))
}

// stepsOf makes steps in a way of its own: each multiplies a polynomial by x.
func stepsOf(x uint32, n int) uint32 {
	rest := uint64(reversed(x))
	for ; n > 0; n-- {
		rest *= 2
		if rest >= 1<<32 {
			rest ^= divisor
		}
	}
	return reversed(uint32(rest))
}

// bytesOf returns the 4 bytes that have a checksum.
func bytesOf(sum uint32) []byte {
	rest := uint64(reversed(math.MaxUint32 - sum))
	for range 32 {
		if rest%2 == 1 { // only a divisor that was taken away makes the coefficient of 1 odd
			rest ^= divisor
		}
		rest /= 2
	}
	x := reversed(uint32(rest)) ^ math.MaxUint32
	return []byte{byte(x), byte(x >> 8), byte(x >> 16), byte(x >> 24)}
}

// checkedOf returns a checked string in a way of its own.
func checkedOf(b []byte) []byte {
	x := sumOf(b)
	return slices.Concat(b, []byte{byte(x >> 24), byte(x >> 16), byte(x >> 8), byte(x)})
}

// checkSum checks the checksum of parts.
func checkSum(t *testing.T, what string, want uint32, parts ...[]byte) {
	t.Helper()
	if got := crc.Sum(parts...); got != want {
		t.Errorf("%s: the checksum is %#x, not %#x", what, got, want)
	}
}

// checkStep checks what steps make of a number.
func checkStep(t *testing.T, want, x uint32, n int) {
	t.Helper()
	if got := crc.Step(x, n); got != want {
		t.Errorf("%#x after %d steps is %#x, not %#x", x, n, got, want)
	}
}

// checkUpdate checks how a checksum is continued.
func checkUpdate(t *testing.T, want, sum uint32, b []byte) {
	t.Helper()
	if got := crc.Update(sum, b); got != want {
		t.Errorf("%#x, continued with %d bytes, is %#x, not %#x", sum, len(b), got, want)
	}
}

// checkGood checks that a string is taken as a checked one.
func checkGood(t *testing.T, s, want []byte) {
	t.Helper()
	if got, ok := crc.Check(s); !bytes.Equal(got, want) || !ok {
		t.Errorf("Check(%x) returns %x, %v, not %x", s, got, ok, want)
	}
}

// checkBad checks that a string is not taken as a checked one, and that nothing is returned.
func checkBad(t *testing.T, what string, s []byte) {
	t.Helper()
	if got, ok := crc.Check(s); len(got) != 0 || ok {
		t.Errorf("%s: Check(%x) returns %x, %v", what, s, got, ok)
	}
}

// firstCalls are calls of one function each, which report whether their results are right.
var firstCalls = map[string]func() bool{
	"Sum":    func() bool { return crc.Sum(digits) == 0xe3069283 },
	"Step":   func() bool { return crc.Step(1, 1) == 0x82f63b78 },
	"Update": func() bool { return crc.Update(0, digits) == 0xe3069283 },
	"Append": func() bool { return string(crc.Append(digits)) == "123456789\xe3\x06\x92\x83" },
	"Check": func() bool {
		b, ok := crc.Check([]byte("123456789\xe3\x06\x92\x83"))
		return string(b) == "123456789" && ok
	},
}

// TestFirst: P10.1 to P10.3, rules 7 and 8; each function may be the first one that is called, at the same time too. A process has only one first call, so each function has a process.
func TestFirst(t *testing.T) {
	const variable = "CRC_FIRST_CALL"
	if call := firstCalls[os.Getenv(variable)]; call != nil {
		var group sync.WaitGroup
		for range 16 {
			group.Go(func() {
				if !call() {
					t.Error("the first call has another result")
				}
			})
		}
		group.Wait()
		return
	}
	for name := range firstCalls {
		c := exec.Command(os.Args[0], "-test.run=^TestFirst$")
		c.Env = append(os.Environ(), variable+"="+name)
		if out, err := c.CombinedOutput(); err != nil {
			t.Errorf("%s: %v: %s", name, err, out)
		}
	}
}

// TestSumKnown: P10.1; the examples of the chapter and others.
func TestSumKnown(t *testing.T) {
	for _, x := range known {
		checkSum(t, x.name, x.want, x.b)
		if got := sumOf(x.b); got != x.want {
			t.Errorf("%s: the checksum of the test itself is %#x, not %#x", x.name, got, x.want)
		}
	}
}

// TestSumNothing: P10.1; there are several ways to give no bytes.
func TestSumNothing(t *testing.T) {
	checkSum(t, "no part", 0)
	checkSum(t, "no part of nil", 0, nil...)
	checkSum(t, "no part of an empty list", 0, [][]byte{}...)
	checkSum(t, "a nil part", 0, nil)
	checkSum(t, "an empty part", 0, []byte{})
	checkSum(t, "parts without bytes", 0, nil, []byte{}, nil, make([]byte, 0, 80))
}

// TestSumBytes: P10.1; each byte alone, and as the first and the last one of others.
func TestSumBytes(t *testing.T) {
	for i := range 256 {
		for _, b := range [][]byte{{byte(i)}, {byte(i), 5, 6, 7, 8}, {5, 6, 7, 8, byte(i)}, bytes.Repeat([]byte{byte(i)}, 20)} {
			checkSum(t, "bytes with one of 256", sumOf(b), b)
		}
	}
}

// TestSumBits: P10.1; each bit of some bytes matters.
func TestSumBits(t *testing.T) {
	b := sample(40)
	for i := range 8 * len(b) {
		b[i/8] ^= 1 << (i % 8)
		checkSum(t, "one bit changed", sumOf(b), b)
		b[i/8] ^= 1 << (i % 8)
	}
}

// TestSumLengths: P10.1; zeros at the beginning and at the end count too.
func TestSumLengths(t *testing.T) {
	for n := range 300 {
		for _, b := range [][]byte{sample(n), make([]byte, n), bytes.Repeat([]byte{255}, n), append(make([]byte, n), 1), append([]byte{1}, make([]byte, n)...)} {
			checkSum(t, "some bytes", sumOf(b), b)
		}
	}
}

// TestSumTwoParts: P10.1; each place where bytes can be divided, also with parts of no bytes.
func TestSumTwoParts(t *testing.T) {
	for _, n := range []int{0, 1, 2, 3, 4, 5, 8, 9, 64, 100} {
		b := sample(n)
		want := sumOf(b)
		for i := range n + 1 {
			checkSum(t, "two parts", want, b[:i], b[i:])
			checkSum(t, "two parts among empty ones", want, nil, b[:i], []byte{}, nil, b[i:], nil)
		}
	}
}

// TestSumManyParts: P10.1; from single bytes to nearly all of them, and parts of several sizes.
func TestSumManyParts(t *testing.T) {
	b := sample(400)
	want := sumOf(b)
	for size := 1; size < 401; size++ {
		checkSum(t, "parts of one size", want, slices.Collect(slices.Chunk(b, size))...)
	}
	source := rand.New(rand.NewSource(1))
	for range 300 {
		var parts [][]byte
		for rest := b; len(rest) > 0; {
			n := source.Intn(min(len(rest), 1<<source.Intn(9)) + 1)
			parts = append(parts, rest[:n])
			rest = rest[n:]
		}
		checkSum(t, "parts of several sizes", want, parts...)
	}
	long := sample(1 << 20)
	checkSum(t, "2^17 parts", 0xf3fc3ece, slices.Collect(slices.Chunk(long, 8))...)
}

// TestSumOrder: P10.1; the parts are taken in order.
func TestSumOrder(t *testing.T) {
	checkSum(t, "two parts", 0xe3069283, digits[:4], digits[4:])
	checkSum(t, "two parts in the other order", sumOf([]byte("567891234")), digits[4:], digits[:4])
	checkSum(t, "one part twice", sumOf([]byte("123123")), digits[:3], digits[:3])
}

// TestSumOnlyBytes: P10.1; the capacity behind a part does not belong to it.
func TestSumOnlyBytes(t *testing.T) {
	b := sample(100)
	for n := range 100 {
		checkSum(t, "the first bytes of more", sumOf(b[:n]), b[:n])
	}
}

// TestStepKnown: P10.1.
func TestStepKnown(t *testing.T) {
	for _, x := range []struct {
		x    uint32
		n    int
		want uint32
	}{
		{0, 1, 0}, {0, 100, 0}, {0, 1 << 16, 0},
		{1, 1, 0x82f63b78}, {2, 1, 1}, {3, 1, 0x82f63b79}, {4, 1, 2}, {0x80000000, 1, 0x40000000}, {0x80000001, 1, 0xc2f63b78},
		{0xfffffffe, 1, 0x7fffffff}, {0xffffffff, 1, 0xfd09c487}, {0x82f63b78, 1, 0x417b1dbc},
		{2, 2, 0x82f63b78}, {0x80000000, 31, 1}, {0x80000000, 32, 0x82f63b78}, {1, 8, 0xf26b8303}, {255, 8, 0xad7d5351},
	} {
		checkStep(t, x.want, x.x, x.n)
		if got := stepsOf(x.x, x.n); got != x.want {
			t.Errorf("%#x after %d steps of the test itself is %#x, not %#x", x.x, x.n, got, x.want)
		}
	}
}

// TestStepNone: P10.1; a number stays as it is, if there is no step.
func TestStepNone(t *testing.T) {
	for _, x := range []uint32{0, 1, 2, 5, 6, 0x7fffffff, 0x80000000, 0x82f63b78, 0xfffffffe, 0xffffffff} {
		for _, n := range []int{0, -1, -2, -3, -8, -31, -32, -1 << 16, math.MinInt32, math.MinInt32 + 1, math.MinInt, math.MinInt + 1} {
			checkStep(t, x, x, n)
		}
	}
}

// TestStep: P10.1; single bits and many numbers, with the lowest bit 0 and 1.
func TestStep(t *testing.T) {
	numbers := []uint32{0, 3, 0x7fffffff, 0xfffffffe, 0xffffffff, 0x55555555, 0xaaaaaaaa}
	for i := range 32 {
		numbers = append(numbers, 1<<i)
	}
	source := rand.New(rand.NewSource(2))
	for range 100 {
		x := source.Uint32()
		numbers = append(numbers, x&^1, x|1)
	}
	for _, x := range numbers {
		for n := range 70 {
			checkStep(t, stepsOf(x, n), x, n)
		}
		for _, n := range []int{127, 128, 255, 256, 257, 1000, 32767, 32768, 65535, 65536} {
			checkStep(t, stepsOf(x, n), x, n)
		}
		checkStep(t, crc.Step(crc.Step(x, 40000), 25536), x, 1<<16)
	}
}

// TestStepEnds: P1; more steps than the promise needs end soon too, and are not counted wrong: all steps repeat after 2^31 - 1 of them.
func TestStepEnds(t *testing.T) {
	for n, same := range map[int]int{1<<16 + 1: 1<<16 + 1, 1 << 20: 1 << 20, 1<<31 - 1: 0, 1 << 31: 1, math.MaxInt: 1, math.MaxInt - 1: 0} {
		for _, x := range []uint32{0, 1, 6, 0xffffffff} {
			checkStep(t, stepsOf(x, same), x, n)
		}
	}
}

// TestSumIsSteps: P10.1; the checksum is what steps make of a register.
func TestSumIsSteps(t *testing.T) {
	b := sample(200)
	register := uint32(math.MaxUint32)
	for i, x := range b {
		checkSum(t, "some bytes", ^register, b[:i])
		register = crc.Step(register^uint32(x), 8)
	}
}

// TestUpdateFromZero: P10.2; 0 is the checksum of no bytes.
func TestUpdateFromZero(t *testing.T) {
	for _, x := range known {
		checkUpdate(t, x.want, 0, x.b)
	}
}

// TestUpdateNothing: P10.2; every number is the checksum of some bytes, and stays as it is.
func TestUpdateNothing(t *testing.T) {
	for _, sum := range []uint32{0, 1, 2, 0x7fffffff, 0x80000000, 0xe3069283, 0xfffffffe, 0xffffffff} {
		checkUpdate(t, sum, sum, nil)
		checkUpdate(t, sum, sum, []byte{})
		checkUpdate(t, sum, sum, make([]byte, 0, 80))
	}
}

// TestUpdateParts: P10.2; each place where bytes can be divided, and byte by byte.
func TestUpdateParts(t *testing.T) {
	for _, x := range known {
		if len(x.b) > 300 {
			continue
		}
		byByte := uint32(0)
		for i := range x.b {
			checkUpdate(t, x.want, sumOf(x.b[:i]), x.b[i:])
			byByte = crc.Update(byByte, x.b[i:i+1])
		}
		if byByte != x.want {
			t.Errorf("%s: byte by byte, the checksum is %#x, not %#x", x.name, byByte, x.want)
		}
	}
	long := sample(1 << 20)
	checkUpdate(t, 0xf3fc3ece, sumOf(long[:5]), long[5:])
	checkUpdate(t, 0xf3fc3ece, sumOf(long[:1<<19]), long[1<<19:])
	checkUpdate(t, 0xf3fc3ece, sumOf(long[:1<<20-1]), long[1<<20-1:])
}

// TestUpdateAnySum: P10.2; the checksum may be any number, and only it matters, not the bytes that have it.
func TestUpdateAnySum(t *testing.T) {
	sums := []uint32{0, 1, 0x80000000, 0xfffffffe, 0xffffffff, 0xe3069283}
	source := rand.New(rand.NewSource(3))
	for range 300 {
		sums = append(sums, source.Uint32())
	}
	for i, sum := range sums {
		first := bytesOf(sum)
		if sumOf(first) != sum {
			t.Fatalf("the test itself takes %x as bytes with the checksum %#x", first, sum)
		}
		b := sample(i)
		checkUpdate(t, sumOf(slices.Concat(first, b)), sum, b)
	}
	checkUpdate(t, sumOf([]byte("123456789abc")), sumOf(bytesOf(0xe3069283)), []byte("abc"))
}

// TestUpdateFromSum: P10.1 and P10.2; one goes on where the other stopped.
func TestUpdateFromSum(t *testing.T) {
	for n := range 200 {
		b := sample(n)
		for _, i := range []int{0, n / 3, n / 2, n} {
			checkUpdate(t, crc.Sum(b), crc.Sum(b[:i]), b[i:])
		}
	}
}

// TestAppendKnown: P10.3; the highest byte of the checksum is the first one.
func TestAppendKnown(t *testing.T) {
	for b, want := range map[string]string{"": "00000000", "a": "61c1d04330", "abc": "616263364b3fb7", "123456789": "313233343536373839e3069283", "\xff": "ffff000000", "\xff\xff\xff\xff": "ffffffffffffffff"} {
		if got := hex.EncodeToString(crc.Append([]byte(b))); got != want {
			t.Errorf("Append(%q) returns %s, not %s", b, got, want)
		}
	}
	if got := crc.Append(nil); !bytes.Equal(got, make([]byte, 4)) {
		t.Errorf("Append of nil returns %x", got)
	}
}

// TestAppendAndCheck: P10.3 and P10.4; no bytes, one byte and many.
func TestAppendAndCheck(t *testing.T) {
	for n := range 300 {
		for _, b := range [][]byte{sample(n), make([]byte, n), bytes.Repeat([]byte{255}, n)} {
			s := crc.Append(b)
			if !bytes.Equal(s, checkedOf(b)) {
				t.Errorf("Append(%x) returns %x", b, s)
			}
			checkGood(t, checkedOf(b), b)
			checkGood(t, s, b)
		}
	}
	for _, x := range known {
		s := crc.Append(x.b)
		if !bytes.Equal(s, checkedOf(x.b)) {
			t.Errorf("%s: Append returns %d bytes, which are wrong", x.name, len(s))
		}
		if b, ok := crc.Check(s); !bytes.Equal(b, x.b) || !ok {
			t.Errorf("%s: Check returns %d bytes, %v", x.name, len(b), ok)
		}
	}
}

// TestCheckTwice: P10.3; a checked string may be the bytes of another one.
func TestCheckTwice(t *testing.T) {
	s := checkedOf(checkedOf(digits))
	if got := crc.Append(crc.Append(digits)); !bytes.Equal(got, s) {
		t.Errorf("Append of a checked string returns %x", got)
	}
	checkGood(t, s, checkedOf(digits))
}

// TestCheckShort: P10.3; strings of up to 4 bytes, of which only 4 zeros are a checked one.
func TestCheckShort(t *testing.T) {
	checkBad(t, "nil", nil)
	checkBad(t, "nothing", []byte{})
	for n := range 4 {
		for _, s := range [][]byte{make([]byte, n), make([]byte, n, 80), bytes.Repeat([]byte{255}, n), checkedOf(nil)[:n], checkedOf(digits)[:n], sample(n)} {
			checkBad(t, "too short", s)
		}
	}
	checkGood(t, make([]byte, 4), nil)
	for i := range 32 {
		s := make([]byte, 4)
		s[i/8] = 1 << (i % 8)
		checkBad(t, "4 bytes with one bit", s)
	}
	checkBad(t, "4 bytes 255", bytes.Repeat([]byte{255}, 4))
	checkBad(t, "4 bytes", digits[:4])
	checkBad(t, "5 zeros", make([]byte, 5))
}

// TestCheckShortened: P10.3; bytes that are missing, or are too many, at the beginning or at the end.
func TestCheckShortened(t *testing.T) {
	s := checkedOf(digits)
	for n := range s {
		checkBad(t, "the beginning", s[:n])
		if n > 0 {
			checkBad(t, "the end", s[n:])
		}
	}
	for _, x := range []byte{0, 1, 255} {
		checkBad(t, "a byte in front", append([]byte{x}, s...))
		checkBad(t, "a byte behind", append(bytes.Clone(s), x))
	}
}

// TestCheckOtherSums: P10.3; checksums in another order of bytes, inverted, or of other bytes.
func TestCheckOtherSums(t *testing.T) {
	low := checkedOf(digits)
	slices.Reverse(low[9:])
	checkBad(t, "the lowest byte first", low)
	inverted := checkedOf(digits)
	for i := range inverted[9:] {
		inverted[9+i] ^= 255
	}
	checkBad(t, "inverted", inverted)
	checkBad(t, "in front of the bytes", slices.Concat(checkedOf(digits)[9:], digits))
	checkBad(t, "of one byte less", slices.Concat(digits, checkedOf(digits[:8])[8:]))
	checkBad(t, "no checksum", digits)
	checkBad(t, "a checksum of 0", slices.Concat(digits, make([]byte, 4)))
}

// TestCheckChanged: P10.4; each byte, of those in front and of the checksum, changed to each other one.
func TestCheckChanged(t *testing.T) {
	for _, b := range [][]byte{nil, {0}, {255}, digits, make([]byte, 20), sample(61)} {
		s := checkedOf(b)
		for i := range s {
			for change := 1; change < 256; change++ {
				s[i] ^= byte(change)
				checkBad(t, "one byte changed", s)
				s[i] ^= byte(change)
			}
		}
		checkGood(t, s, b)
	}
}

// TestCheckChangedLong: P10.4; some bytes of a long string.
func TestCheckChangedLong(t *testing.T) {
	b := sample(1 << 16)
	s := checkedOf(b)
	for _, i := range []int{0, 1, 2, 3, 4, 255, 256, 1 << 15, 1<<16 - 1, 1 << 16, 1<<16 + 1, 1<<16 + 2, 1<<16 + 3} {
		for _, change := range []byte{1, 64, 128, 255} {
			s[i] ^= change
			if got, ok := crc.Check(s); len(got) != 0 || ok {
				t.Errorf("the byte %d is changed: Check returns %d bytes, %v", i, len(got), ok)
			}
			s[i] ^= change
		}
	}
	if got, ok := crc.Check(s); !bytes.Equal(got, b) || !ok {
		t.Errorf("Check returns %d bytes, %v", len(got), ok)
	}
}

// TestArgumentsStay: rule 5; the bytes and the unused capacity behind them stay as they are.
func TestArgumentsStay(t *testing.T) {
	for n := range 100 {
		b := sample(200)
		parts := [][]byte{b[:n], nil, b[n : n+10]}
		crc.Sum(parts...)
		crc.Update(5, b[:n])
		crc.Append(b[:n])
		crc.Check(b[:n])
		if !bytes.Equal(b, sample(200)) {
			t.Fatalf("an argument of %d bytes was changed", n)
		}
		if len(parts[0]) != n || parts[1] != nil || len(parts[2]) != 10 {
			t.Fatalf("the list of parts was changed: %v", parts)
		}
		s := append(checkedOf(b[:n]), sample(50)...)
		kept := bytes.Clone(s)
		checkGood(t, s[:n+4], b[:n])
		if !bytes.Equal(s, kept) {
			t.Fatalf("a checked string with %d bytes was changed", n)
		}
	}
}

// TestResultsAreNew: P10.3 and rule 5; results share no memory with arguments, in either direction, nor with other results.
func TestResultsAreNew(t *testing.T) {
	for _, n := range []int{0, 1, 9, 60, 64, 100} {
		b := append(make([]byte, 0, 200), sample(n)...)
		s, other := crc.Append(b), crc.Append(b)
		clear(b[:200])
		if !bytes.Equal(s, checkedOf(sample(n))) {
			t.Errorf("a change of the argument changed what Append returned for %d bytes", n)
		}
		clear(s[:cap(s)])
		if !bytes.Equal(other, checkedOf(sample(n))) {
			t.Errorf("a change of a result changed what Append returned for %d bytes", n)
		}
		s = append(make([]byte, 0, 200), other...)
		first, _ := crc.Check(s)
		second, _ := crc.Check(s)
		clear(first[:cap(first)])
		if !bytes.Equal(s, other) {
			t.Errorf("a change of the result of Check changed its argument of %d bytes", n)
		}
		clear(s[:200])
		if !bytes.Equal(second, sample(n)) {
			t.Errorf("a change of the argument, or of a result, changed what Check returned for %d bytes", n)
		}
	}
}

// TestAgain: rules 7 and 8; nothing is left of earlier calls, and calls at the same time do not meet.
func TestAgain(t *testing.T) {
	var group sync.WaitGroup
	for i := range 8 {
		group.Go(func() {
			for j := range 60 {
				b := sample(20*i + j)
				want := sumOf(b)
				if crc.Sum(b) != want || crc.Sum(b[:j], b[j:]) != want || crc.Update(sumOf(b[:j]), b[j:]) != want {
					t.Errorf("%d bytes, beside other calls: %#x, not %#x", len(b), crc.Sum(b), want)
				}
				if got, ok := crc.Check(crc.Append(b)); !bytes.Equal(got, b) || !ok {
					t.Errorf("%d bytes, beside other calls: %x, %v", len(b), got, ok)
				}
				if got := crc.Step(want, j); got != stepsOf(want, j) {
					t.Errorf("%d steps, beside other calls: %#x", j, got)
				}
			}
		})
	}
	group.Wait()
}
