package field_test

import (
	"bytes"
	"math/rand"
	"os"
	"os/exec"
	"sync"
	"testing"

	"toll/field"
)

// substitutions are those of FIPS 197, figure 7.
var substitutions = [256]byte{
	0x63, 0x7c, 0x77, 0x7b, 0xf2, 0x6b, 0x6f, 0xc5, 0x30, 0x01, 0x67, 0x2b, 0xfe, 0xd7, 0xab, 0x76,
	0xca, 0x82, 0xc9, 0x7d, 0xfa, 0x59, 0x47, 0xf0, 0xad, 0xd4, 0xa2, 0xaf, 0x9c, 0xa4, 0x72, 0xc0,
	0xb7, 0xfd, 0x93, 0x26, 0x36, 0x3f, 0xf7, 0xcc, 0x34, 0xa5, 0xe5, 0xf1, 0x71, 0xd8, 0x31, 0x15,
	0x04, 0xc7, 0x23, 0xc3, 0x18, 0x96, 0x05, 0x9a, 0x07, 0x12, 0x80, 0xe2, 0xeb, 0x27, 0xb2, 0x75,
	0x09, 0x83, 0x2c, 0x1a, 0x1b, 0x6e, 0x5a, 0xa0, 0x52, 0x3b, 0xd6, 0xb3, 0x29, 0xe3, 0x2f, 0x84,
	0x53, 0xd1, 0x00, 0xed, 0x20, 0xfc, 0xb1, 0x5b, 0x6a, 0xcb, 0xbe, 0x39, 0x4a, 0x4c, 0x58, 0xcf,
	0xd0, 0xef, 0xaa, 0xfb, 0x43, 0x4d, 0x33, 0x85, 0x45, 0xf9, 0x02, 0x7f, 0x50, 0x3c, 0x9f, 0xa8,
	0x51, 0xa3, 0x40, 0x8f, 0x92, 0x9d, 0x38, 0xf5, 0xbc, 0xb6, 0xda, 0x21, 0x10, 0xff, 0xf3, 0xd2,
	0xcd, 0x0c, 0x13, 0xec, 0x5f, 0x97, 0x44, 0x17, 0xc4, 0xa7, 0x7e, 0x3d, 0x64, 0x5d, 0x19, 0x73,
	0x60, 0x81, 0x4f, 0xdc, 0x22, 0x2a, 0x90, 0x88, 0x46, 0xee, 0xb8, 0x14, 0xde, 0x5e, 0x0b, 0xdb,
	0xe0, 0x32, 0x3a, 0x0a, 0x49, 0x06, 0x24, 0x5c, 0xc2, 0xd3, 0xac, 0x62, 0x91, 0x95, 0xe4, 0x79,
	0xe7, 0xc8, 0x37, 0x6d, 0x8d, 0xd5, 0x4e, 0xa9, 0x6c, 0x56, 0xf4, 0xea, 0x65, 0x7a, 0xae, 0x08,
	0xba, 0x78, 0x25, 0x2e, 0x1c, 0xa6, 0xb4, 0xc6, 0xe8, 0xdd, 0x74, 0x1f, 0x4b, 0xbd, 0x8b, 0x8a,
	0x70, 0x3e, 0xb5, 0x66, 0x48, 0x03, 0xf6, 0x0e, 0x61, 0x35, 0x57, 0xb9, 0x86, 0xc1, 0x1d, 0x9e,
	0xe1, 0xf8, 0x98, 0x11, 0x69, 0xd9, 0x8e, 0x94, 0x9b, 0x1e, 0x87, 0xe9, 0xce, 0x55, 0x28, 0xdf,
	0x8c, 0xa1, 0x89, 0x0d, 0xbf, 0xe6, 0x42, 0x68, 0x41, 0x99, 0x2d, 0x0f, 0xb0, 0x54, 0xbb, 0x16,
}

// numbers are those of powers at and around the limits of the chapter and of the field.
var numbers = []int{
	0, 1, 2, 127, 128, 253, 254, 255, 256, 257, 509, 510, 511, 65535, 65536, 1<<20 - 1, 1 << 20,
	-1, -2, -127, -128, -253, -254, -255, -256, -257, -509, -510, -511, -65535, -65536, 1 - 1<<20, -1 << 20,
}

// productOf finds a product in a way of its own: by the division of polynomials.
func productOf(l ...byte) byte {
	a := 1
	for _, b := range l {
		p := 0
		for k := range 8 {
			if b>>k&1 == 1 {
				p ^= a << k
			}
		}
		for k := 14; k >= 8; k-- {
			if p>>k&1 == 1 {
				p ^= 0x11b << (k - 8)
			}
		}
		a = p
	}
	return byte(a)
}

// inverseOf finds an inverse in a way of its own: by looking at all bytes.
func inverseOf(a byte) byte {
	for b := range 256 {
		if productOf(a, byte(b)) == 1 {
			return byte(b)
		}
	}
	return 0
}

// powerOf finds a power in a way of its own: from those with half the number.
func powerOf(a byte, n int) byte {
	switch {
	case n == 0:
		return 1
	case n < 0:
		return powerOf(inverseOf(a), -n)
	case n%2 == 1:
		return productOf(powerOf(a, n-1), a)
	}
	half := powerOf(a, n/2)
	return productOf(half, half)
}

// substitutionOf finds a substitution in a way of its own: bit by bit.
func substitutionOf(a byte) byte {
	b, s := inverseOf(a), byte(0)
	for i := range 8 {
		bit := byte(0x63) >> i & 1
		for _, k := range []int{i, i + 4, i + 5, i + 6, i + 7} {
			bit ^= b >> (k % 8) & 1
		}
		s |= bit << i
	}
	return s
}

// checkMul checks the product of bytes.
func checkMul(t *testing.T, want, a byte, l ...byte) {
	t.Helper()
	if got := field.Mul(a, l...); got != want {
		t.Errorf("the product of %#x and %#x is %#x, not %#x", a, l, got, want)
	}
}

// checkPower checks a power.
func checkPower(t *testing.T, want, a byte, n int) {
	t.Helper()
	if got := field.Power(a, n); got != want {
		t.Errorf("%#x to the power of %d is %#x, not %#x", a, n, got, want)
	}
}

// checkDot checks the sum of four products.
func checkDot(t *testing.T, want byte, a, b [4]byte) {
	t.Helper()
	if got := field.Dot(a, b); got != want {
		t.Errorf("Dot(%#x, %#x) returns %#x, not %#x", a, b, got, want)
	}
}

// someBytes returns n bytes other than 0.
func someBytes(source *rand.Rand, n int) []byte {
	l := make([]byte, n)
	for i := range l {
		l[i] = byte(1 + source.Intn(255))
	}
	return l
}

// firstCalls are calls of one function each, which report whether their results are right.
var firstCalls = map[string]func() bool{
	"Mul":     func() bool { return field.Mul(0x57, 0x83) == 0xc1 },
	"Power":   func() bool { return field.Power(2, 8) == 0x1b },
	"Inverse": func() bool { return field.Inverse(0x53) == 0xca },
	"Sub":     func() bool { return field.Sub(0x53) == 0xed },
	"Unsub":   func() bool { return field.Unsub(0xed) == 0x53 },
	"Dot":     func() bool { return field.Dot([4]byte{2, 3, 1, 1}, [4]byte{0xdb, 0x13, 0x53, 0x45}) == 0x8e },
}

// TestFirst: P6.1 to P6.3, rules 7 and 8; each function may be the first one that is called, at the same time too. A process has only one first call, so each function has a process.
func TestFirst(t *testing.T) {
	const variable = "FIELD_FIRST_CALL"
	if call := firstCalls[os.Getenv(variable)]; call != nil {
		var group sync.WaitGroup
		for range 16 {
			group.Go(func() {
				if !call() {
					t.Error("the first call has another result")
				}
			})
		}
		group.Wait()
		return
	}
	for name := range firstCalls {
		c := exec.Command(os.Args[0], "-test.run=^TestFirst$")
		c.Env = append(os.Environ(), variable+"="+name)
		if out, err := c.CombinedOutput(); err != nil {
			t.Errorf("%s: %v: %s", name, err, out)
		}
	}
}

// TestMulKnown: P6.1; the products of FIPS 197, and others.
func TestMulKnown(t *testing.T) {
	for _, x := range []struct{ a, b, want byte }{
		{0x57, 0x83, 0xc1}, {0x57, 0x13, 0xfe}, {0x57, 0x01, 0x57}, {0x57, 0x02, 0xae}, {0x57, 0x04, 0x47}, {0x57, 0x08, 0x8e}, {0x57, 0x10, 0x07},
		{0x53, 0xca, 0x01}, {0x03, 0xf6, 0x01}, {0x02, 0x8d, 0x01}, {0x02, 0x80, 0x1b}, {0x80, 0x80, 0x9a}, {0xff, 0xff, 0x13}, {0x00, 0x00, 0x00}, {0x01, 0x01, 0x01},
	} {
		checkMul(t, x.want, x.a, x.b)
		checkMul(t, x.want, x.b, x.a)
		if got := productOf(x.a, x.b); got != x.want {
			t.Errorf("the product of the test itself of %#x and %#x is %#x", x.a, x.b, got)
		}
	}
}

// TestMulOne: P6.1; the product of one byte is that byte.
func TestMulOne(t *testing.T) {
	for i := range 256 {
		a := byte(i)
		checkMul(t, a, a)
		checkMul(t, a, a, nil...)
		checkMul(t, a, a, []byte{}...)
		checkMul(t, a, a, make([]byte, 0, 9)...)
	}
}

// TestMulTwo: P6.1; all bytes, with 0 and 1 too.
func TestMulTwo(t *testing.T) {
	for i := range 256 {
		a := byte(i)
		for j := range 256 {
			checkMul(t, productOf(a, byte(j)), a, byte(j))
		}
		checkMul(t, 0, a, 0)
		checkMul(t, 0, 0, a)
		checkMul(t, a, a, 1)
		checkMul(t, a, 1, a)
	}
}

// TestMulMore: P6.1; three and more bytes, of which one may be 0, or 1.
func TestMulMore(t *testing.T) {
	checkMul(t, 16, 2, 2, 2, 2)
	checkMul(t, 0x1b, 2, 2, 2, 2, 2, 2, 2, 2)
	checkMul(t, 1, 3, 0xf6, 0x53, 0xca)
	source := rand.New(rand.NewSource(1))
	for n := 3; n < 300; n++ {
		l := someBytes(source, n)
		want := productOf(l...)
		checkMul(t, want, l[0], l[1:]...)
		checkMul(t, want, 1, l...)
		for range 5 {
			other := bytes.Clone(l)
			i := source.Intn(n)
			other[i] = 1
			checkMul(t, productOf(other...), other[0], other[1:]...)
			other[i] = 0
			checkMul(t, 0, other[0], other[1:]...)
		}
		checkMul(t, 0, 0, l...)
		checkMul(t, 0, l[0], append(l[1:n:n], 0)...)
		checkMul(t, want, l[0], append(l[1:n:n], 1)...)
	}
}

// TestMulMany: P6.1.
func TestMulMany(t *testing.T) {
	l := someBytes(rand.New(rand.NewSource(2)), 1<<20)
	want := productOf(l...)
	if got := field.Mul(l[0], l[1:]...); got != want {
		t.Errorf("the product of 2^20 bytes is %#x, not %#x", got, want)
	}
	l[1<<19] = 0
	if got := field.Mul(l[0], l[1:]...); got != 0 {
		t.Errorf("the product of 2^20 bytes with a 0 is %#x", got)
	}
}

// TestPowerKnown: P6.1.
func TestPowerKnown(t *testing.T) {
	for _, x := range []struct {
		a    byte
		n    int
		want byte
	}{
		{2, 0, 1}, {2, 1, 2}, {2, 7, 0x80}, {2, 8, 0x1b}, {2, 9, 0x36}, {2, 10, 0x6c}, {2, 50, 0x8d}, {2, 51, 1}, {2, 52, 2}, {2, -1, 0x8d}, {2, -2, 0xcb},
		{3, 1, 3}, {3, 2, 5}, {3, 25, 2}, {3, 85, 0xbd}, {3, 127, 0xa0}, {3, 128, 0xfb}, {3, 254, 0xf6}, {3, 255, 1}, {3, 256, 3}, {3, -1, 0xf6}, {3, -255, 1}, {3, -256, 0xf6},
		{3, 1 << 20, 0x5f}, {3, -1 << 20, 0x17}, {0x53, -1, 0xca}, {0xca, -1, 0x53}, {1, 1 << 20, 1}, {1, -1 << 20, 1},
	} {
		checkPower(t, x.want, x.a, x.n)
		if got := powerOf(x.a, x.n); got != x.want {
			t.Errorf("the power of the test itself, of %#x and %d, is %#x, not %#x", x.a, x.n, got, x.want)
		}
	}
}

// TestPowerNumbers: P6.1; the numbers that the field makes equal: 2^20 is 16 more than a multiple of 255.
func TestPowerNumbers(t *testing.T) {
	for i := 1; i < 256; i++ {
		a, b := byte(i), inverseOf(byte(i))
		for n, want := range map[int]byte{
			0: 1, 1: a, 255: 1, 256: a, 1 << 20: powerOf(a, 16), 1<<20 - 1: powerOf(a, 15),
			-1: b, -255: 1, -256: b, -1 << 20: powerOf(b, 16), 1 - 1<<20: powerOf(b, 15),
		} {
			checkPower(t, want, a, n)
		}
	}
}

// TestPower: P6.1; all bytes with all numbers of more than two rounds of the field, and with those at the limits.
func TestPower(t *testing.T) {
	for i := range 256 {
		a, b := byte(i), inverseOf(byte(i))
		up, down := byte(1), byte(1)
		for n := range 600 {
			checkPower(t, up, a, n)
			checkPower(t, down, a, -n)
			up, down = productOf(up, a), productOf(down, b)
		}
		for _, n := range numbers {
			checkPower(t, powerOf(a, n), a, n)
		}
	}
}

// TestPowerOfZero: P6.1; the product of no bytes is 1, and the inverse of 0 is 0.
func TestPowerOfZero(t *testing.T) {
	for _, n := range numbers {
		want := byte(0)
		if n == 0 {
			want = 1
		}
		checkPower(t, want, 0, n)
	}
}

// TestPowerIsProduct: P6.1; a power is what Mul makes of as many bytes.
func TestPowerIsProduct(t *testing.T) {
	for i := range 256 {
		a := byte(i)
		for _, n := range []int{1, 2, 3, 10, 254, 255, 256, 257, 1000} {
			l := bytes.Repeat([]byte{a}, n-1)
			checkPower(t, field.Mul(a, l...), a, n)
			l = bytes.Repeat([]byte{field.Inverse(a)}, n)
			checkPower(t, field.Mul(1, l...), a, -n)
		}
	}
}

// TestInverse: P6.2; every byte, of which only 0 has no product 1.
func TestInverse(t *testing.T) {
	for a, want := range map[byte]byte{0: 0, 1: 1, 2: 0x8d, 3: 0xf6, 0x53: 0xca, 0xca: 0x53, 0xff: 0x1c} {
		if got := field.Inverse(a); got != want {
			t.Errorf("the inverse of %#x is %#x, not %#x", a, got, want)
		}
	}
	for i := range 256 {
		a := byte(i)
		b := field.Inverse(a)
		if b != inverseOf(a) {
			t.Errorf("the inverse of %#x is %#x, not %#x", a, b, inverseOf(a))
		}
		if field.Inverse(b) != a {
			t.Errorf("the inverse of the inverse of %#x is %#x", a, field.Inverse(b))
		}
		checkMul(t, byte(min(i, 1)), a, b)
	}
}

// TestSub: P6.2; every byte.
func TestSub(t *testing.T) {
	for i, want := range substitutions {
		if got := field.Sub(byte(i)); got != want {
			t.Errorf("the substitution of %#x is %#x, not %#x", i, got, want)
		}
		if got := substitutionOf(byte(i)); got != want {
			t.Errorf("the substitution of the test itself, of %#x, is %#x, not %#x", i, got, want)
		}
	}
}

// TestUnsub: P6.2; every byte is a substitution.
func TestUnsub(t *testing.T) {
	for i, s := range substitutions {
		if got := field.Unsub(s); got != byte(i) {
			t.Errorf("the byte whose substitution is %#x is %#x, not %#x", s, got, i)
		}
	}
	for s, want := range map[byte]byte{0: 0x52, 1: 0x09, 0x52: 0x48, 0x63: 0, 0x7c: 1, 0xed: 0x53, 0xff: 0x7d} {
		if got := field.Unsub(s); got != want {
			t.Errorf("the byte whose substitution is %#x is %#x, not %#x", s, got, want)
		}
	}
}

// TestDotKnown: P6.3; rows of known columns, which the rounds of AES mix.
func TestDotKnown(t *testing.T) {
	for _, x := range []struct{ column, want [4]byte }{
		{[4]byte{0xdb, 0x13, 0x53, 0x45}, [4]byte{0x8e, 0x4d, 0xa1, 0xbc}},
		{[4]byte{0xf2, 0x0a, 0x22, 0x5c}, [4]byte{0x9f, 0xdc, 0x58, 0x9d}},
		{[4]byte{0xd4, 0xbf, 0x5d, 0x30}, [4]byte{0x04, 0x66, 0x81, 0xe5}},
		{[4]byte{0xd4, 0xd4, 0xd4, 0xd5}, [4]byte{0xd5, 0xd5, 0xd7, 0xd6}},
		{[4]byte{0x2d, 0x26, 0x31, 0x4c}, [4]byte{0x4d, 0x7e, 0xbd, 0xf8}},
		{[4]byte{0x01, 0x01, 0x01, 0x01}, [4]byte{0x01, 0x01, 0x01, 0x01}},
		{[4]byte{0xc6, 0xc6, 0xc6, 0xc6}, [4]byte{0xc6, 0xc6, 0xc6, 0xc6}},
		{[4]byte{0x00, 0x00, 0x00, 0x00}, [4]byte{0x00, 0x00, 0x00, 0x00}},
	} {
		rows := [4][4]byte{{2, 3, 1, 1}, {1, 2, 3, 1}, {1, 1, 2, 3}, {3, 1, 1, 2}}
		back := [4][4]byte{{14, 11, 13, 9}, {9, 14, 11, 13}, {13, 9, 14, 11}, {11, 13, 9, 14}}
		for i := range 4 {
			checkDot(t, x.want[i], rows[i], x.column)
			checkDot(t, x.want[i], x.column, rows[i])
			checkDot(t, x.column[i], back[i], x.want)
		}
	}
}

// TestDotPlaces: P6.3; each of the four products alone, which no other element changes.
func TestDotPlaces(t *testing.T) {
	for i := range 4 {
		for x := range 256 {
			for _, y := range []byte{0, 1, 2, 3, 0x57, 0x80, 0xff} {
				var a, b [4]byte
				a[i], b[i] = byte(x), y
				checkDot(t, productOf(byte(x), y), a, b)
				for j := range 4 {
					if j != i {
						one, other := a, b
						one[j], other[(j+1)%4] = 0x53, b[(j+1)%4]
						checkDot(t, productOf(byte(x), y), one, other)
					}
				}
			}
		}
	}
}

// TestDotSame: P6.3; equal products cancel each other in pairs.
func TestDotSame(t *testing.T) {
	for i := range 256 {
		for j := range 256 {
			x, y := byte(i), byte(j)
			p := productOf(x, y)
			checkDot(t, 0, [4]byte{x, x, x, x}, [4]byte{y, y, y, y})
			checkDot(t, 0, [4]byte{x, x, 0, 0}, [4]byte{y, y, 0, 0})
			checkDot(t, 0, [4]byte{x, 0, y, 0}, [4]byte{y, 0, x, 0})
			checkDot(t, p, [4]byte{x, x, 0, x}, [4]byte{y, y, y, y})
			checkDot(t, p, [4]byte{x, 1, 1, 0}, [4]byte{y, x, x, y})
			checkDot(t, p^x^y, [4]byte{x, 1, y, 0}, [4]byte{y, x, 1, 1})
		}
	}
}

// TestDot: P6.3; different bytes.
func TestDot(t *testing.T) {
	source := rand.New(rand.NewSource(3))
	for range 20000 {
		var a, b [4]byte
		source.Read(a[:])
		source.Read(b[:])
		want := productOf(a[0], b[0]) ^ productOf(a[1], b[1]) ^ productOf(a[2], b[2]) ^ productOf(a[3], b[3])
		checkDot(t, want, a, b)
		checkDot(t, want, b, a)
	}
}

// TestOrder: P6.4; all orders of four bytes, and some of more.
func TestOrder(t *testing.T) {
	source := rand.New(rand.NewSource(4))
	for range 200 {
		l := make([]byte, 4)
		source.Read(l)
		want := field.Mul(l[0], l[1:]...)
		for i := range 256 {
			order := []int{i & 3, i >> 2 & 3, i >> 4 & 3, i >> 6}
			if 1<<order[0]|1<<order[1]|1<<order[2]|1<<order[3] == 15 {
				checkMul(t, want, l[order[0]], l[order[1]], l[order[2]], l[order[3]])
			}
		}
	}
	for range 200 {
		l := someBytes(source, 2+source.Intn(100))
		want := field.Mul(l[0], l[1:]...)
		for range 5 {
			source.Shuffle(len(l), func(i, j int) { l[i], l[j] = l[j], l[i] })
			checkMul(t, want, l[0], l[1:]...)
		}
		i := source.Intn(len(l))
		checkMul(t, want, field.Mul(1, l[:i]...), field.Mul(1, l[i:]...))
	}
}

// TestInvert: P6.4; Sub and Unsub invert each other, so that no two bytes share a substitution.
func TestInvert(t *testing.T) {
	for i := range 256 {
		a := byte(i)
		if got := field.Unsub(field.Sub(a)); got != a {
			t.Errorf("Unsub(Sub(%#x)) returns %#x", a, got)
		}
		if got := field.Sub(field.Unsub(a)); got != a {
			t.Errorf("Sub(Unsub(%#x)) returns %#x", a, got)
		}
	}
}

// TestArgumentsStay: rule 5; bytes and the unused capacity behind them stay as they are.
func TestArgumentsStay(t *testing.T) {
	source := rand.New(rand.NewSource(5))
	for n := range 20 {
		all := someBytes(source, 40)
		before := bytes.Clone(all)
		field.Mul(7, all[:n]...)
		if !bytes.Equal(all, before) {
			t.Fatalf("the product of %d bytes changed them", n)
		}
	}
}

// TestAgain: rules 7 and 8; nothing is left of earlier calls, and calls at the same time do not meet.
func TestAgain(t *testing.T) {
	var group sync.WaitGroup
	for i := range 8 {
		group.Go(func() {
			for j := range 256 {
				a, b := byte(i+j), byte(31*i+7*j)
				p := productOf(a, b)
				sum := field.Dot([4]byte{a, b, a, 1}, [4]byte{b, 1, 1, a})
				if field.Mul(a, b) != p || field.Power(a, -3) != powerOf(a, -3) || field.Inverse(b) != inverseOf(b) || sum != p^b {
					t.Errorf("%#x and %#x: another result beside other calls", a, b)
				}
				if s := substitutions[a]; field.Sub(a) != s || field.Unsub(s) != a {
					t.Errorf("%#x: another substitution beside other calls", a)
				}
			}
		})
	}
	group.Wait()
}
