package crc

import "testing"

// results returns what the exported functions return for many arguments.
func results() []uint32 {
	var l []uint32
	b := make([]byte, 300)
	for i := range b {
		b[i] = byte(i)
		first, rest := b[:i/2], b[i/2:i]
		l = append(l, Sum(b[:i]), Sum(first, rest), Sum(rest, first), Update(Sum(first), rest), Update(uint32(i), rest), Step(uint32(i), 8), Step(uint32(i), i))
		s := Append(b[:i])
		for _, x := range s[i:] {
			l = append(l, uint32(x))
		}
		if got, ok := Check(s); ok {
			l = append(l, uint32(len(got)))
		}
	}
	return l
}

// TestTable: the section 'Ways' of layer 10; 256 steps are kept in a table, which a call of Sum has made.
func TestTable(t *testing.T) {
	Sum()
	for i, got := range table {
		if want := Step(uint32(i), 8); got != want {
			t.Errorf("the table has %#x for the byte %#x, not %#x", got, i, want)
		}
	}
}

// TestBesideTable: rule 7, and rule 3b of the language; the table may hold anything, and is not made again, but no result changes.
func TestBesideTable(t *testing.T) {
	want := results()
	kept := table
	defer func() { table = kept }()
	for i := range table {
		table[i] = 0x01234567 * uint32(i+3)
	}
	spoilt := table
	got := results()
	if len(got) != len(want) {
		t.Fatalf("with another table, there are %d results instead of %d", len(got), len(want))
	}
	for i := range got {
		if got[i] != want[i] {
			t.Fatalf("the result %d depends on the table", i)
		}
	}
	if table != spoilt {
		t.Error("the table was made twice")
	}
}
