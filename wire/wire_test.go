package wire_test

import (
	"bytes"
	"math"
	"math/rand"
	"testing"

	"toll/wire"
)

// badWidths are numbers of bytes that no number has.
var badWidths = []int{math.MinInt, -8, -1, 0, 9, 10, 64, math.MaxInt}

// greatest returns the greatest number of k bytes.
func greatest(k int) uint64 {
	return math.MaxUint64 >> (64 - 8*k)
}

// number writes x in k bytes, in a way of its own.
func number(k int, x uint64) []byte {
	var b []byte
	for len(b) < k {
		b = append([]byte{byte(x)}, b...)
		x /= 256
	}
	return b
}

// checkFailed checks that a read has failed, and that no further one succeeds.
func checkFailed(t *testing.T, what string, r *wire.Reader) {
	t.Helper()
	for i := range 2 {
		if !r.Bad() || r.Done() || r.Left() != 0 {
			t.Errorf("%s, round %d: Bad %v, Done %v, Left %d", what, i, r.Bad(), r.Done(), r.Left())
		}
		if x := r.Number(1); x != 0 {
			t.Errorf("%s, round %d: Number returns %d", what, i, x)
		}
		if b := r.Take(1); len(b) != 0 {
			t.Errorf("%s, round %d: Take returns %v", what, i, b)
		}
		if b := r.Take(0); len(b) != 0 {
			t.Errorf("%s, round %d: Take of nothing returns %v", what, i, b)
		}
		if b := r.String(1); len(b) != 0 {
			t.Errorf("%s, round %d: String returns %v", what, i, b)
		}
	}
}

// TestStates: P1.1.
func TestStates(t *testing.T) {
	for _, b := range [][]byte{nil, {}} {
		if r := wire.New(b); r == nil || r.Left() != 0 || r.Bad() || !r.Done() {
			t.Errorf("a reader of no bytes: %v", r)
		}
	}
	r := wire.New([]byte{1, 2, 1, 3})
	reads := []func(){
		func() {},
		func() { r.Take(0) },
		func() { r.Number(1) },
		func() { r.Take(1) },
		func() { r.String(1) },
	}
	for i, left := range []int{4, 4, 3, 2, 0} {
		reads[i]()
		if r.Left() != left || r.Bad() || r.Done() != (left == 0) {
			t.Errorf("read %d: Left %d, Bad %v, Done %v", i, r.Left(), r.Bad(), r.Done())
		}
	}
	r.Take(1)
	checkFailed(t, "a read at the end", r)
}

// TestNewCopies: P1.1.
func TestNewCopies(t *testing.T) {
	b := []byte{5, 6, 7, 8}
	r := wire.New(b[:2])
	if r.Left() != 2 {
		t.Error("the reader reads beyond its bytes:", r.Left())
	}
	copy(b, []byte{0, 0, 0, 0})
	if x := r.Take(2); !bytes.Equal(x, []byte{5, 6}) {
		t.Error("a change of the argument changed what is read:", x)
	}
}

// TestNilReader: the sentence above P1.1.
func TestNilReader(t *testing.T) {
	var r *wire.Reader
	checkFailed(t, "nil", r)
	for _, k := range append(badWidths, 1, 8) {
		if r.Number(k) != 0 || len(r.Take(k)) != 0 || len(r.String(k)) != 0 {
			t.Error("nil reads with", k)
		}
	}
	checkFailed(t, "nil after reads", r)
}

// TestReadNumber: P1.2.
func TestReadNumber(t *testing.T) {
	for k := 1; k <= 8; k++ {
		for _, x := range []uint64{0, 1, 0x80, 0xff, greatest(k) / 255, greatest(k)/2 + 1, greatest(k) - 1, greatest(k)} {
			r := wire.New(append(number(k, x), 9))
			if y := r.Number(k); y != x || r.Bad() || r.Left() != 1 {
				t.Errorf("%d in %d bytes is read as %d, with %d left", x, k, y, r.Left())
			}
		}
	}
	if x := wire.New([]byte{1, 2, 3, 4, 5, 6, 7, 8}).Number(8); x != 0x0102030405060708 {
		t.Errorf("%x", x)
	}
}

// TestReadBytes: P1.2.
func TestReadBytes(t *testing.T) {
	b := []byte{10, 11, 12, 13, 14}
	for n := range len(b) + 1 {
		r := wire.New(b)
		if x := r.Take(n); !bytes.Equal(x, b[:n]) || r.Bad() || r.Left() != len(b)-n {
			t.Errorf("Take(%d) returns %v, with %d left", n, x, r.Left())
		}
	}
	for k := 1; k <= 8; k++ {
		for n := range len(b) + 1 {
			r := wire.New(bytes.Join([][]byte{number(k, uint64(n)), b}, nil))
			if x := r.String(k); !bytes.Equal(x, b[:n]) || r.Bad() || r.Left() != len(b)-n {
				t.Errorf("String(%d) of %d bytes returns %v, with %d left", k, n, x, r.Left())
			}
		}
	}
}

// TestReadFails: P1.2.
func TestReadFails(t *testing.T) {
	for _, k := range badWidths {
		r := wire.New(make([]byte, 100))
		if x := r.Number(k); x != 0 {
			t.Errorf("Number(%d) returns %d", k, x)
		}
		checkFailed(t, "Number of a wrong width", r)
		r = wire.New(make([]byte, 100))
		if b := r.String(k); len(b) != 0 {
			t.Errorf("String(%d) returns %v", k, b)
		}
		checkFailed(t, "String of a wrong width", r)
	}
	for _, n := range []int{math.MinInt, -3, -1, 4, 5, math.MaxInt32, math.MaxInt} {
		r := wire.New([]byte{1, 2, 3})
		if b := r.Take(n); len(b) != 0 {
			t.Errorf("Take(%d) returns %v", n, b)
		}
		checkFailed(t, "Take", r)
	}
	for k := 1; k <= 8; k++ {
		r := wire.New(bytes.Repeat([]byte{1}, k-1))
		if x := r.Number(k); x != 0 {
			t.Errorf("Number(%d) of too few bytes returns %d", k, x)
		}
		checkFailed(t, "Number", r)
		r = wire.New(make([]byte, k-1))
		if b := r.String(k); len(b) != 0 {
			t.Errorf("String(%d) of too few bytes returns %v", k, b)
		}
		checkFailed(t, "String without a length", r)
	}
}

// TestReadStringTooLong: P1.2; lengths that no int, or no int of 32 bits, holds must not be cut.
func TestReadStringTooLong(t *testing.T) {
	for k := 1; k <= 8; k++ {
		for _, n := range []uint64{4, 1 << 8, 1<<32 + 2, 1<<63 - 1, 1 << 63, 1<<63 + 2, 1<<64 - 1} {
			if n > greatest(k) {
				continue
			}
			r := wire.New(append(number(k, n), 1, 2, 3))
			if b := r.String(k); len(b) != 0 {
				t.Errorf("String(%d) with the length %d returns %v", k, n, b)
			}
			checkFailed(t, "String", r)
		}
	}
}

// TestReadsAreCopies: P1.2.
func TestReadsAreCopies(t *testing.T) {
	b := []byte{1, 2, 3, 1, 4, 5, 6}
	r := wire.New(b)
	taken := r.Take(3)
	_ = append(taken, 9, 9, 9, 9)
	text := r.String(1)
	if !bytes.Equal(text, []byte{4}) {
		t.Error("appending to a result changed what is read next:", text)
	}
	_ = append(text, 8, 8)
	taken[0], text[0] = 7, 7
	if x := r.Take(2); !bytes.Equal(x, []byte{5, 6}) {
		t.Error("appending to a result changed what is read next:", x)
	}
	if !bytes.Equal(b, []byte{1, 2, 3, 1, 4, 5, 6}) {
		t.Error("the argument was changed:", b)
	}
}

// TestNumber: P1.3.
func TestNumber(t *testing.T) {
	for k := 1; k <= 8; k++ {
		for _, x := range []uint64{0, 1, 0x7f, 0x80, 0xff, greatest(k) / 255, greatest(k) - 1, greatest(k)} {
			if b, ok := wire.Number(k, x); !ok || !bytes.Equal(b, number(k, x)) {
				t.Errorf("Number(%d, %d) returns %v, %v", k, x, b, ok)
			}
		}
		if k == 8 {
			continue
		}
		for _, x := range []uint64{greatest(k) + 1, greatest(k) + 2, 1 << 63, math.MaxUint64} {
			if b, ok := wire.Number(k, x); ok || len(b) != 0 {
				t.Errorf("Number(%d, %d) returns %v, %v", k, x, b, ok)
			}
		}
	}
	if b, ok := wire.Number(2, 258); !ok || !bytes.Equal(b, []byte{1, 2}) {
		t.Error("the example:", b, ok)
	}
	for _, k := range badWidths {
		for _, x := range []uint64{0, 1, math.MaxUint64} {
			if b, ok := wire.Number(k, x); ok || len(b) != 0 {
				t.Errorf("Number(%d, %d) returns %v, %v", k, x, b, ok)
			}
		}
	}
}

// TestString: P1.3.
func TestString(t *testing.T) {
	if s, ok := wire.String(1, []byte{7, 8}); !ok || !bytes.Equal(s, []byte{2, 7, 8}) {
		t.Error("the example:", s, ok)
	}
	for k := 1; k <= 8; k++ {
		for _, n := range []int{0, 1, 255, 256, 1<<16 - 1, 1 << 16, 1<<24 - 1, 1 << 24} {
			b := bytes.Repeat([]byte{0xa5}, n)
			s, ok := wire.String(k, b)
			if fits := uint64(n) <= greatest(k); ok != fits || !fits && len(s) != 0 {
				t.Errorf("String(%d) of %d bytes returns %d bytes, %v", k, n, len(s), ok)
			} else if fits && !(len(s) == k+n && bytes.Equal(s[:k], number(k, uint64(n))) && bytes.Equal(s[k:], b)) {
				t.Errorf("String(%d) of %d bytes returns a wrong string", k, n)
			}
		}
	}
	for _, k := range badWidths {
		for _, b := range [][]byte{nil, {1}} {
			if s, ok := wire.String(k, b); ok || len(s) != 0 {
				t.Errorf("String(%d, %v) returns %v, %v", k, b, s, ok)
			}
		}
	}
}

// TestStringCopies: P1.3.
func TestStringCopies(t *testing.T) {
	b := []byte{1, 2, 3, 4}
	s, _ := wire.String(1, b[:2])
	_ = append(s, 9, 9)
	s[1] = 9
	if !bytes.Equal(b, []byte{1, 2, 3, 4}) {
		t.Error("the argument was changed:", b)
	}
	s, _ = wire.String(1, b[:2])
	b[0] = 9
	if !bytes.Equal(s, []byte{2, 1, 2}) {
		t.Error("a change of the argument changed the result:", s)
	}
}

// TestJoin: P1.4.
func TestJoin(t *testing.T) {
	for i, x := range []struct {
		parts [][]byte
		want  []byte
	}{
		{nil, nil},
		{[][]byte{nil}, nil},
		{[][]byte{nil, {}, nil}, nil},
		{[][]byte{{1}}, []byte{1}},
		{[][]byte{{1, 2}, {3}, {}, {4, 5, 6}}, []byte{1, 2, 3, 4, 5, 6}},
		{[][]byte{nil, {3}, nil, {2, 1}, nil}, []byte{3, 2, 1}},
	} {
		if b := wire.Join(x.parts...); !bytes.Equal(b, x.want) {
			t.Errorf("case %d: %v", i, b)
		}
	}
}

// TestJoinCopies: P1.4; the first part has room for the second one behind it.
func TestJoinCopies(t *testing.T) {
	b := []byte{1, 2, 3, 4}
	for _, parts := range [][][]byte{{b[:2]}, {b[:2], {9}}, {nil, b[:2], nil}, {b[:0], {9}}} {
		all := wire.Join(parts...)
		_ = append(all, 9, 9)
		for i := range all {
			all[i] = 9
		}
		if !bytes.Equal(b, []byte{1, 2, 3, 4}) {
			t.Fatal("an argument was changed:", b)
		}
	}
	all := wire.Join(b)
	b[0] = 9
	if !bytes.Equal(all, []byte{1, 2, 3, 4}) {
		t.Error("a change of an argument changed the result:", all)
	}
}

// item is a number (text is nil) or a string, with its width.
type item struct {
	width int
	x     uint64
	text  []byte
}

// randomItem returns an item that fits.
func randomItem(source *rand.Rand) item {
	k := 1 + source.Intn(8)
	if source.Intn(2) == 0 {
		return item{width: k, x: source.Uint64() & greatest(k)}
	}
	text := make([]byte, source.Intn(256))
	source.Read(text)
	return item{width: k, text: text}
}

// write returns the bytes of an item.
func (i item) write(t *testing.T) []byte {
	t.Helper()
	b, ok := wire.Number(i.width, i.x)
	if i.text != nil {
		b, ok = wire.String(i.width, i.text)
	}
	if !ok {
		t.Errorf("%v is not written", i)
	}
	return b
}

// check reads an item.
func (i item) check(t *testing.T, r *wire.Reader) {
	t.Helper()
	if i.text == nil {
		if x := r.Number(i.width); x != i.x {
			t.Errorf("%d in %d bytes is given back as %d", i.x, i.width, x)
		}
	} else if b := r.String(i.width); !bytes.Equal(b, i.text) {
		t.Errorf("%v with a length of %d bytes is given back as %v", i.text, i.width, b)
	}
}

// TestGivesBack: P1.5.
func TestGivesBack(t *testing.T) {
	source := rand.New(rand.NewSource(1))
	for range 300 {
		var items []item
		var parts [][]byte
		for range source.Intn(20) {
			i := randomItem(source)
			items, parts = append(items, i), append(parts, i.write(t))
		}
		all := wire.Join(parts...)
		r := wire.New(all)
		for _, i := range items {
			i.check(t, r)
		}
		if !r.Done() || r.Bad() || r.Left() != 0 {
			t.Errorf("not done after %d items: %d left", len(items), r.Left())
		}
		// Without its last byte, the same input must fail on the way.
		if len(all) == 0 {
			continue
		}
		r = wire.New(all[:len(all)-1])
		for _, i := range items[:len(items)-1] {
			i.check(t, r)
		}
		if last := items[len(items)-1]; last.text == nil {
			r.Number(last.width)
		} else {
			r.String(last.width)
		}
		checkFailed(t, "cut input", r)
	}
}
