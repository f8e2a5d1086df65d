package field

import "testing"

// results returns what the exported functions return for many arguments.
func results() []byte {
	var l []byte
	for i := range 256 {
		a, b := byte(i), byte(7*i+5)
		l = append(l, Mul(a, b), Mul(a, b, 3), Inverse(a), Sub(a), Unsub(a), Dot([4]byte{a, 2, b, 3}, [4]byte{b, a, 1, a}))
		for _, n := range []int{-300, -255, -2, -1, 0, 1, 2, 255, 300} {
			l = append(l, Power(a, n))
		}
	}
	return l
}

// TestTables: the section 'Ways' of layer 6; products are kept in tables, which a call of Mul has made.
func TestTables(t *testing.T) {
	Mul(1)
	x := byte(1)
	for i := range 255 {
		if tables[products][i] != x || tables[exponents][x] != byte(i) {
			t.Errorf("the tables have %#x as the product of %d bytes 3, and %d as the exponent of %#x", tables[products][i], i, tables[exponents][x], x)
		}
		x = Mul(x, 3)
	}
}

// TestBesideTables: rule 7, and rule 3b of the language; the tables may hold anything, and are not made again, but no result changes.
func TestBesideTables(t *testing.T) {
	want := results()
	kept := tables
	defer func() { tables = kept }()
	for table := range tables {
		for i := range tables[table] {
			tables[table][i] = byte(11*i + 3)
		}
	}
	spoilt := tables
	for i, got := range results() {
		if got != want[i] {
			t.Fatalf("the result %d depends on the tables", i)
		}
	}
	if tables != spoilt {
		t.Error("the tables were made twice")
	}
}
