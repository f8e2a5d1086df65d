package times_test

import (
	"math"
	"math/big"
	"math/rand"
	"slices"
	"testing"

	"toll/times"
)

const (
	most  = int64(math.MaxInt64)
	least = int64(math.MinInt64)
)

// numbers are ordinary ones, and those at and beside the limits and their halves.
var numbers = []int64{
	least, least + 1, least + 2, least + 5, least/2 - 1, least / 2, least/2 + 1,
	-1 << 32, -1000, -20, -10, -5, -2, -1, 0, 1, 2, 5, 10, 20, 1000, 1 << 32,
	most/2 - 1, most / 2, most/2 + 1, most/2 + 2, most - 5, most - 2, most - 1, most,
}

// nearest returns the number of 64 bits that is nearest to an exact one.
func nearest(x *big.Int) int64 {
	if x.IsInt64() {
		return x.Int64()
	}
	if x.Sign() < 0 {
		return least
	}
	return most
}

// sum adds in a way of its own.
func sum(a, b int64) int64 {
	return nearest(new(big.Int).Add(big.NewInt(a), big.NewInt(b)))
}

// difference subtracts in a way of its own.
func difference(a, b int64) int64 {
	return nearest(new(big.Int).Sub(big.NewInt(a), big.NewInt(b)))
}

// side finds the side of a time in a way of its own: it compares exact numbers after the saturated ends are found.
func side(t, start, end, skew int64) int {
	if big.NewInt(t).Cmp(big.NewInt(difference(start, skew))) < 0 {
		return -1
	}
	if big.NewInt(t).Cmp(big.NewInt(sum(end, skew))) > 0 {
		return 1
	}
	return 0
}

// skews returns the numbers that are skews.
func skews() []int64 {
	return slices.DeleteFunc(slices.Clone(numbers), func(x int64) bool { return x < 0 })
}

// randomNumber returns a number of any size, often at a limit.
func randomNumber(source *rand.Rand) int64 {
	if source.Intn(2) == 0 {
		return numbers[source.Intn(len(numbers))]
	}
	return int64(source.Uint64()) >> source.Intn(64)
}

// TestAddTwo: P3.1.
func TestAddTwo(t *testing.T) {
	for _, x := range []struct{ a, b, want int64 }{
		{1, 2, 3}, {-5, 5, 0}, {0, 0, 0}, {-7, -8, -15},
		{most, 5, most}, {most, 1, most}, {1, most, most}, {most - 1, 1, most}, {most - 1, 2, most}, {most, most, most},
		{least, -1, least}, {-1, least, least}, {least + 1, -1, least}, {least + 1, -2, least}, {least, least, least},
		{least, most, -1}, {most, least, -1}, {most, 0, most}, {least, 0, least}, {0, least, least}, {0, most, most},
	} {
		if got := times.Add(x.a, x.b); got != x.want {
			t.Errorf("Add(%d, %d) returns %d, not %d", x.a, x.b, got, x.want)
		}
	}
	for _, a := range numbers {
		for _, b := range numbers {
			if got, want := times.Add(a, b), sum(a, b); got != want {
				t.Errorf("Add(%d, %d) returns %d, not %d", a, b, got, want)
			}
		}
	}
}

// TestAddNone: P3.1; without a number, there is nothing to add.
func TestAddNone(t *testing.T) {
	for _, a := range numbers {
		if times.Add(a) != a || times.Add(a, nil...) != a || times.Add(a, []int64{}...) != a {
			t.Errorf("Add(%d) returns %d", a, times.Add(a))
		}
	}
}

// TestAddSeveral: P3.1; a sum that was cut to a limit is where the next number is added, so the order matters.
func TestAddSeveral(t *testing.T) {
	for i, x := range []struct {
		l    []int64
		want int64
	}{
		{[]int64{1, 2, 3, 4}, 10},
		{[]int64{10, -20, 5}, -5},
		{[]int64{most, 1, -1}, most - 1},
		{[]int64{most, -1, 1}, most},
		{[]int64{-1, most, 1}, most},
		{[]int64{1, most, -1}, most - 1},
		{[]int64{least, -1, 1}, least + 1},
		{[]int64{least, 1, -1}, least},
		{[]int64{most, most, least, least}, least},
		{[]int64{most, most, most, least}, -1},
		{[]int64{least, least, most, most}, most - 1},
		{[]int64{most, 7, -3, 1, 5, -2}, most - 2},
	} {
		if got := times.Add(x.l[0], x.l[1:]...); got != x.want {
			t.Errorf("case %d: Add returns %d, not %d", i, got, x.want)
		}
	}
	for _, a := range numbers {
		for _, b := range numbers {
			for _, c := range numbers {
				if got, want := times.Add(a, b, c), sum(sum(a, b), c); got != want {
					t.Errorf("Add(%d, %d, %d) returns %d, not %d", a, b, c, got, want)
				}
			}
		}
	}
}

// TestAddMany: P3.1.
func TestAddMany(t *testing.T) {
	source := rand.New(rand.NewSource(1))
	for range 2000 {
		a := randomNumber(source)
		l := make([]int64, source.Intn(12))
		want := a
		for i := range l {
			l[i] = randomNumber(source)
			want = sum(want, l[i])
		}
		if got := times.Add(a, l...); got != want {
			t.Errorf("Add(%d, %v) returns %d, not %d", a, l, got, want)
		}
	}
}

// TestSub: P3.1.
func TestSub(t *testing.T) {
	for _, x := range []struct{ a, b, want int64 }{
		{1, 2, -1}, {2, 1, 1}, {-5, 5, -10}, {0, 0, 0}, {9, -4, 13},
		{most, -1, most}, {most, least, most}, {0, least, most}, {-1, least, most}, {-2, least, most - 1}, {1, least, most}, {0, most, least + 1},
		{least, 1, least}, {least, most, least}, {-1, most, least}, {-2, most, least}, {least + 1, 1, least}, {least + 1, 2, least},
		{least, least, 0}, {most, most, 0}, {least, -1, least + 1}, {most, 1, most - 1}, {least, 0, least}, {most, 0, most},
	} {
		if got := times.Sub(x.a, x.b); got != x.want {
			t.Errorf("Sub(%d, %d) returns %d, not %d", x.a, x.b, got, x.want)
		}
	}
	for _, a := range numbers {
		for _, b := range numbers {
			if got, want := times.Sub(a, b), difference(a, b); got != want {
				t.Errorf("Sub(%d, %d) returns %d, not %d", a, b, got, want)
			}
		}
	}
}

// TestApart: P3.2; every pair of numbers comes in both orders.
func TestApart(t *testing.T) {
	for _, x := range []struct{ a, b, want int64 }{
		{3, 10, 7}, {-3, 10, 13}, {-10, -3, 7}, {4, 4, 0}, {least, least, 0}, {most, most, 0},
		{least, most, most}, {least, 0, most}, {least, -1, most}, {least, -2, most - 1}, {0, most, most}, {-1, most, most}, {1, most, most - 1},
	} {
		if one, two := times.Apart(x.a, x.b), times.Apart(x.b, x.a); one != x.want || two != x.want {
			t.Errorf("%d and %d are %d and %d apart, not %d", x.a, x.b, one, two, x.want)
		}
	}
	for _, a := range numbers {
		for _, b := range numbers {
			if got, want := times.Apart(a, b), difference(max(a, b), min(a, b)); got != want {
				t.Errorf("%d and %d are %d apart, not %d", a, b, got, want)
			}
		}
	}
}

// TestWindow: P3.3; an end before the start is given back as it is.
func TestWindow(t *testing.T) {
	for _, x := range []struct{ start, end, skew, from, to int64 }{
		{10, 20, 1, 9, 21}, {10, 20, 0, 10, 20}, {20, 20, 0, 20, 20}, {-20, -10, 7, -27, -3},
		{20, 10, 1, 19, 11}, {20, 10, 0, 20, 10}, {20, 10, 5, 15, 15}, {20, 10, 6, 14, 16},
		{least, most, 7, least, most}, {least, most, most, least, most}, {most, least, 0, most, least}, {most, least, most, 0, -1},
		{0, 0, most, least + 1, most}, {-1, 1, most, least, most}, {-2, 2, most, least, most}, {least + 6, most - 7, 7, least, most}, {least + 8, most - 8, 7, least + 1, most - 1},
	} {
		if from, to := times.Window(x.start, x.end, x.skew); from != x.from || to != x.to {
			t.Errorf("Window(%d, %d, %d) returns %d and %d, not %d and %d", x.start, x.end, x.skew, from, to, x.from, x.to)
		}
	}
	for _, start := range numbers {
		for _, end := range numbers {
			for _, skew := range skews() {
				from, to := times.Window(start, end, skew)
				if from != difference(start, skew) || to != sum(end, skew) {
					t.Errorf("Window(%d, %d, %d) returns %d and %d", start, end, skew, from, to)
				}
			}
		}
	}
}

// TestSide: P3.3; times at, before and after each end of the window.
func TestSide(t *testing.T) {
	for _, x := range []struct {
		t, start, end, skew int64
		want                int
	}{
		{9, 10, 20, 1, 0}, {8, 10, 20, 1, -1}, {10, 10, 20, 1, 0}, {15, 10, 20, 1, 0}, {20, 10, 20, 1, 0}, {21, 10, 20, 1, 0}, {22, 10, 20, 1, 1},
		{9, 10, 20, 0, -1}, {10, 10, 20, 0, 0}, {20, 10, 20, 0, 0}, {21, 10, 20, 0, 1},
		{4, 5, 5, 0, -1}, {5, 5, 5, 0, 0}, {6, 5, 5, 0, 1},
		{most, 0, most, most, 0}, {least, 0, most, most, -1}, {least + 1, 0, most, most, 0}, {least, -1, 0, most, 0}, {most, 0, 0, most, 0}, {most, 0, -1, most, 1},
		{least, least, 0, 5, 0}, {most, 0, most, 5, 0}, {least, least + 5, 0, 5, 0}, {least, least + 6, 0, 5, -1}, {most, 0, most - 6, 5, 1},
	} {
		if got := times.Side(x.t, x.start, x.end, x.skew); got != x.want {
			t.Errorf("Side(%d, %d, %d, %d) returns %d, not %d", x.t, x.start, x.end, x.skew, got, x.want)
		}
	}
}

// TestSideEndBeforeStart: P3.3; a time between the end and the start is on both sides, and -1 comes first.
func TestSideEndBeforeStart(t *testing.T) {
	for _, x := range []struct {
		t, start, end, skew int64
		want                int
	}{
		{9, 20, 10, 0, -1}, {10, 20, 10, 0, -1}, {15, 20, 10, 0, -1}, {19, 20, 10, 0, -1}, {20, 20, 10, 0, 1}, {21, 20, 10, 0, 1},
		{14, 20, 10, 5, -1}, {15, 20, 10, 5, 0}, {16, 20, 10, 5, 1},
		{15, 20, 10, 4, -1}, {16, 20, 10, 4, 1}, {13, 20, 10, 6, -1}, {14, 20, 10, 6, 0}, {16, 20, 10, 6, 0}, {17, 20, 10, 6, 1},
		{least, most, least, 0, -1}, {0, most, least, 0, -1}, {most - 1, most, least, 0, -1}, {most, most, least, 0, 1},
		{-1, most, least, most, -1}, {0, most, least, most, 1},
	} {
		if got := times.Side(x.t, x.start, x.end, x.skew); got != x.want {
			t.Errorf("Side(%d, %d, %d, %d) returns %d, not %d", x.t, x.start, x.end, x.skew, got, x.want)
		}
	}
}

// TestSideAtEnds: P3.3; the ends of each window, and the times beside them.
func TestSideAtEnds(t *testing.T) {
	for _, start := range numbers {
		for _, end := range numbers {
			for _, skew := range skews() {
				from, to := difference(start, skew), sum(end, skew)
				for _, x := range []int64{least, difference(from, 1), from, sum(from, 1), 0, difference(to, 1), to, sum(to, 1), most} {
					if got, want := times.Side(x, start, end, skew), side(x, start, end, skew); got != want {
						t.Fatalf("Side(%d, %d, %d, %d) returns %d, not %d", x, start, end, skew, got, want)
					}
				}
			}
		}
	}
}

// TestMost: P3.4.
func TestMost(t *testing.T) {
	if times.Most() != least || times.Most(nil...) != least || times.Most([]int64{}...) != least {
		t.Error("without numbers:", times.Most())
	}
	for _, a := range numbers {
		if got := times.Most(a); got != a {
			t.Errorf("Most(%d) returns %d", a, got)
		}
		for _, b := range numbers {
			want := a
			if b > a {
				want = b
			}
			if got := times.Most(a, b); got != want {
				t.Errorf("Most(%d, %d) returns %d", a, b, got)
			}
		}
	}
	for i, x := range []struct {
		l    []int64
		want int64
	}{
		{[]int64{3, -1, 7}, 7}, {[]int64{7, -1, 3}, 7}, {[]int64{3, 7, -1}, 7}, {[]int64{7, 7, 7}, 7},
		{[]int64{-3, -1, -7}, -1}, {[]int64{least, least + 1, least}, least + 1}, {[]int64{least, least}, least}, {[]int64{0, most, least}, most},
	} {
		if got := times.Most(x.l...); got != x.want {
			t.Errorf("case %d: Most returns %d, not %d", i, got, x.want)
		}
	}
}

// TestMostMany: P3.4.
func TestMostMany(t *testing.T) {
	source := rand.New(rand.NewSource(2))
	for range 2000 {
		l := make([]int64, 1+source.Intn(12))
		for i := range l {
			l[i] = randomNumber(source)
		}
		sorted := slices.Sorted(slices.Values(l))
		if got := times.Most(l...); got != sorted[len(l)-1] {
			t.Errorf("Most(%v) returns %d", l, got)
		}
	}
}

// TestNotLess: P3.5.
func TestNotLess(t *testing.T) {
	source := rand.New(rand.NewSource(3))
	check := func(a, b int64) {
		if x := times.Add(a, b); b >= 0 && x < a || a >= 0 && x < b {
			t.Errorf("the sum of %d and %d is less than one of them: %d", a, b, x)
		}
		if x := times.Apart(a, b); x < 0 {
			t.Errorf("%d and %d are %d apart", a, b, x)
		}
	}
	for _, a := range numbers {
		for _, b := range numbers {
			check(a, b)
		}
	}
	for range 2000 {
		check(randomNumber(source), randomNumber(source))
	}
}

// TestArgumentsStay: rule 5; the numbers that are given as a slice, and its unused capacity, stay as they are.
func TestArgumentsStay(t *testing.T) {
	all := []int64{3, most, -4, 8, 2}
	l := all[:3]
	times.Add(5, l...)
	times.Most(l...)
	if !slices.Equal(all, []int64{3, most, -4, 8, 2}) {
		t.Error("the arguments were changed:", all)
	}
}
