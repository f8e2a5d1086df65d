package fault_test

import (
	"errors"
	"math"
	"strconv"
	"strings"
	"testing"

	"toll/api"
	"toll/fault"
)

// allNames are the names of the codes from 0 to 16, in a list of its own.
var allNames = strings.Fields("NONE MALFORMED BAD_INTEGRITY TKT_NYV TKT_EXPIRED BADMATCH SKEW QUARANTINE REPEAT STORAGE ACCEPT FAILED DOWN FULL CORRUPT BAD SYNTAX")

// otherCodes are numbers that are no code.
var otherCodes = []api.Code{math.MinInt, math.MinInt32, -17, -16, -2, -1, 17, 18, 32, 256, 1<<32 + 1, 1 << 33, math.MaxInt}

// answers are all answers, the least one first.
var answers = []api.Code{api.Malformed, api.BadIntegrity, api.NotYet, api.Expired, api.BadMatch, api.Skew, api.Quarantine, api.Repeat, api.Storage, api.Accept}

// wrapper is an error with an Unwrap that does not come from the package.
type wrapper struct {
	text string
	err  error
}

func (w wrapper) Error() string { return w.text }
func (w wrapper) Unwrap() error { return w.err }

// listError is an error that cannot be compared.
type listError []string

func (l listError) Error() string { return strings.Join(l, "+") }

// someCodes returns all codes and numbers that are no code.
func someCodes() []api.Code {
	codes := otherCodes[:len(otherCodes):len(otherCodes)]
	for c := range len(allNames) {
		codes = append(codes, api.Code(c))
	}
	return codes
}

// deep returns an error in n parts.
func deep(n int, err error) error {
	for i := range n {
		err = fault.In(strconv.Itoa(i), err)
	}
	return err
}

// checkCode checks the code of an error.
func checkCode(t *testing.T, what string, err error, want api.Code) {
	t.Helper()
	if got := fault.Code(err); got != want {
		t.Errorf("%s: the code is %d, not %d", what, got, want)
	}
}

// checkPlace checks the place of an error.
func checkPlace(t *testing.T, what string, err error, at int, has bool) {
	t.Helper()
	if got, ok := fault.Place(err); got != at || ok != has {
		t.Errorf("%s: the place is %d, %v, not %d, %v", what, got, ok, at, has)
	}
}

// TestNew: P2.1.
func TestNew(t *testing.T) {
	for _, c := range someCodes() {
		for _, at := range []int{math.MinInt, -1, 0, 1, 7, math.MaxInt} {
			f, ok := fault.New(c, at).(api.Fault)
			if want := (api.Fault{Code: c, At: at}); !ok || f != want {
				t.Errorf("New(%d, %d) returns %v, %v", c, at, f, ok)
			}
		}
	}
}

// TestIn: P2.1.
func TestIn(t *testing.T) {
	plain := errors.New("plain")
	for _, x := range []struct {
		part string
		err  error
		text string
	}{
		{"disk", fault.New(api.Full, 7), "disk: error 13"},
		{"a", plain, "a: plain"},
		{"", plain, ": plain"},
		{"", errors.New(""), ": "},
		{"a: b", api.Down, "a: b: error 12"},
		{"\xff\x00é", api.Code(-3), "\xff\x00é: error -3"},
		{"%s%d", errors.New("%v"), "%s%d: %v"},
		{"a", wrapper{"own", api.Bad}, "a: own"},
		{"a", wrapper{"own", nil}, "a: own"},
	} {
		err := fault.In(x.part, x.err)
		if err == nil {
			t.Errorf("In(%q, %v) returns nil", x.part, x.err)
			continue
		}
		if err.Error() != x.text {
			t.Errorf("In(%q, %v) has the text %q", x.part, x.err, err)
		}
		if errors.Unwrap(err) != x.err {
			t.Errorf("In(%q, %v) wraps %v", x.part, x.err, errors.Unwrap(err))
		}
	}
}

// TestInTwice: P2.1; the outer part stands first, and one Unwrap takes off one part.
func TestInTwice(t *testing.T) {
	inner := fault.In("inner", api.Bad)
	outer := fault.In("outer", inner)
	if outer.Error() != "outer: inner: error 15" || inner.Error() != "inner: error 15" {
		t.Errorf("the texts are %q and %q", outer, inner)
	}
	if errors.Unwrap(outer) != inner || errors.Unwrap(inner) != error(api.Bad) {
		t.Error("the wrong errors are wrapped:", errors.Unwrap(outer), errors.Unwrap(inner))
	}
}

// TestInNil: P2.1.
func TestInNil(t *testing.T) {
	for _, part := range []string{"", "disk"} {
		if err := fault.In(part, nil); err != nil {
			t.Errorf("In(%q, nil) returns %v", part, err)
		}
	}
	if err := deep(3, nil); err != nil {
		t.Error("nil in parts:", err)
	}
}

// TestInOfListError: P2.1 and P1; errors.Is compares errors, which must not panic for one that holds a slice.
func TestInOfListError(t *testing.T) {
	one, two := fault.In("a", listError{"x", "y"}), fault.In("a", listError{"x", "y"})
	if one.Error() != "a: x+y" {
		t.Errorf("the text is %q", one)
	}
	errors.Is(one, two) // the result is not specified
	if !errors.Is(fault.In("b", one), one) || errors.Is(one, api.Full) {
		t.Error("errors.Is")
	}
	checkCode(t, "list", one, 0)
	checkPlace(t, "list", one, 0, false)
}

// TestCode: P2.2.
func TestCode(t *testing.T) {
	for _, c := range someCodes() {
		for what, err := range map[string]error{
			"code":     c,
			"fault":    fault.New(c, 9),
			"fault 0":  api.Fault{Code: c},
			"part":     fault.In("a", c),
			"parts":    deep(3, c),
			"in parts": deep(3, fault.New(c, 9)),
			"wrapper":  wrapper{"w", c},
			"mixed":    fault.In("a", wrapper{"w", fault.In("b", wrapper{"v", fault.New(c, 9)})}),
		} {
			checkCode(t, what, err, c)
		}
	}
}

// TestNoCode: P2.2.
func TestNoCode(t *testing.T) {
	for what, err := range map[string]error{
		"nil":           nil,
		"nil in a part": fault.In("a", nil),
		"plain":         errors.New("error 13"),
		"named":         errors.New("FULL"),
		"part":          fault.In("error 13", errors.New("x")),
		"parts":         deep(5, errors.New("x")),
		"empty wrapper": wrapper{"w", nil},
		"wrapper":       fault.In("a", wrapper{"w", nil}),
		"list":          listError{"x"},
	} {
		checkCode(t, what, err, 0)
		checkPlace(t, what, err, 0, false)
	}
}

// TestPlace: P2.2.
func TestPlace(t *testing.T) {
	for _, at := range []int{math.MinInt, -1, 0, 1, 7, math.MaxInt} {
		for _, c := range []api.Code{api.None, api.Corrupt, -1, 17} {
			err := fault.New(c, at)
			checkPlace(t, "fault", err, at, true)
			checkPlace(t, "part", fault.In("a", err), at, true)
			checkPlace(t, "parts", deep(4, err), at, true)
			checkPlace(t, "wrapper", wrapper{"w", err}, at, true)
			checkPlace(t, "mixed", fault.In("a", wrapper{"w", fault.In("b", err)}), at, true)
		}
	}
	for _, c := range someCodes() {
		checkPlace(t, "code", c, 0, false)
		checkPlace(t, "code in parts", deep(3, c), 0, false)
		checkPlace(t, "code in a wrapper", wrapper{"w", c}, 0, false)
	}
}

// TestLongChain: P2.1 and P2.2; a chain has up to 1000 errors.
func TestLongChain(t *testing.T) {
	err := deep(998, fault.New(api.Syntax, 5)) // the fault and its code are two more
	checkCode(t, "long chain", err, api.Syntax)
	checkPlace(t, "long chain", err, 5, true)
	if text := err.Error(); !strings.HasPrefix(text, "997: 996: ") || !strings.HasSuffix(text, ": 1: 0: error 16") {
		t.Errorf("the text is %q", text)
	}
	if !errors.Is(err, api.Syntax) {
		t.Error("errors.Is does not find the code")
	}
	checkCode(t, "long chain without a code", deep(999, errors.New("x")), 0)
}

// TestName: P2.3.
func TestName(t *testing.T) {
	if len(allNames) != 17 {
		t.Fatal("the test has the wrong number of names:", len(allNames))
	}
	for i, want := range allNames {
		if got := fault.Name(api.Code(i)); got != want {
			t.Errorf("Name(%d) returns %q, not %q", i, got, want)
		}
	}
	for c, want := range map[api.Code]string{api.None: "NONE", api.NotYet: "TKT_NYV", api.Accept: "ACCEPT", api.Syntax: "SYNTAX"} {
		if got := fault.Name(c); got != want {
			t.Errorf("Name(%d) returns %q, not %q", c, got, want)
		}
	}
	for _, c := range otherCodes {
		if got := fault.Name(c); got != "" {
			t.Errorf("Name(%d) returns %q", c, got)
		}
	}
}

// TestParse: P2.3.
func TestParse(t *testing.T) {
	for i, name := range allNames {
		if c, ok := fault.Parse(name); c != api.Code(i) || !ok {
			t.Errorf("Parse(%q) returns %d, %v", name, c, ok)
		}
		for _, other := range []string{strings.ToLower(name), strings.ToUpper(name[:1]) + strings.ToLower(name[1:]), name + " ", " " + name, name + "\n", name + "\x00", name + "S", name[1:], name[:len(name)-1], name + name, strconv.Itoa(i)} {
			if c, ok := fault.Parse(other); c != 0 || ok {
				t.Errorf("Parse(%q) returns %d, %v", other, c, ok)
			}
		}
	}
	for _, other := range []string{"", " ", "X", "error 13", "NONE MALFORMED", "TKT-NYV", "BAD_", "_", "\xff"} {
		if c, ok := fault.Parse(other); c != 0 || ok {
			t.Errorf("Parse(%q) returns %d, %v", other, c, ok)
		}
	}
}

// TestFirst: P2.4.
func TestFirst(t *testing.T) {
	for i, x := range []struct {
		codes []api.Code
		want  api.Code
	}{
		{nil, api.Accept},
		{[]api.Code{}, api.Accept},
		{[]api.Code{api.Repeat, api.Skew}, api.Skew},
		{[]api.Code{api.Skew, api.Repeat}, api.Skew},
		{[]api.Code{api.Accept, api.Accept}, api.Accept},
		{[]api.Code{api.Accept, api.Storage, api.Accept}, api.Storage},
		{[]api.Code{api.None}, api.Accept},
		{[]api.Code{api.None, api.Storage, api.None}, api.Storage},
		{[]api.Code{api.Failed, api.Down, api.Full, api.Corrupt, api.Bad, api.Syntax}, api.Accept},
		{[]api.Code{api.Syntax, api.Quarantine, api.Failed}, api.Quarantine},
		{[]api.Code{-1, api.Malformed, 0}, api.Malformed},
		{[]api.Code{api.Expired, api.Expired, api.BadMatch}, api.Expired},
	} {
		if got := fault.First(x.codes...); got != x.want {
			t.Errorf("case %d: First returns %d, not %d", i, got, x.want)
		}
	}
}

// TestFirstOfAll: P2.4, for each pair of codes, and among numbers that are no answers.
func TestFirstOfAll(t *testing.T) {
	noAnswers := append([]api.Code{api.None, api.Failed, api.Down, api.Full, api.Corrupt, api.Bad, api.Syntax}, otherCodes...)
	if got := fault.First(noAnswers...); got != api.Accept {
		t.Error("First of no answers returns", got)
	}
	for i, a := range answers {
		if got := fault.First(a); got != a {
			t.Errorf("First(%d) returns %d", a, got)
		}
		for j, b := range answers {
			if got, want := fault.First(a, b), answers[min(i, j)]; got != want {
				t.Errorf("First(%d, %d) returns %d", a, b, got)
			}
		}
		for _, c := range noAnswers {
			if fault.First(a, c) != a || fault.First(c, a) != a || fault.First(c) != api.Accept {
				t.Errorf("First of %d and %d", a, c)
			}
		}
	}
}

// TestFirstKeepsArguments: rule 5 for P2.4; a function that sorts its arguments would change them.
func TestFirstKeepsArguments(t *testing.T) {
	codes := []api.Code{api.Accept, api.Syntax, api.Malformed, api.None}
	fault.First(codes...)
	for i, want := range []api.Code{10, 16, 1, 0} {
		if codes[i] != want {
			t.Fatal("the arguments were changed:", codes)
		}
	}
}

// TestIsFindsCodes: P2.5.
func TestIsFindsCodes(t *testing.T) {
	var wrapped []error
	for _, c := range someCodes() {
		wrapped = append(wrapped, c, fault.New(c, 4), wrapper{"w", c}, deep(2, c), deep(2, fault.New(c, 4)))
	}
	wrapped = append(wrapped, errors.New("error 13"), errors.New(""), wrapper{"w", nil}, listError{"x"})
	for _, err := range wrapped {
		in := fault.In("a", err)
		for _, c := range someCodes() {
			want := has(err) && fault.Code(err) == c
			if got := errors.Is(err, c); got != want {
				t.Errorf("errors.Is finds %d in %v: %v", c, err, got)
			}
			if got := errors.Is(in, c); got != want {
				t.Errorf("errors.Is finds %d in %v: %v", c, in, got)
			}
			if got := errors.Is(deep(10, in), c); got != want {
				t.Errorf("errors.Is finds %d in %v, ten parts deep: %v", c, in, got)
			}
		}
	}
}

// has reports whether an error has a code; the code of one without is 0, as that of api.None.
func has(err error) bool {
	var c api.Code
	return errors.As(err, &c)
}
