package name_test

import (
	"bytes"
	"math/rand"
	"regexp"
	"slices"
	"strings"
	"sync"
	"testing"

	"toll/api"
	"toll/name"
	"toll/wire"
)

// of returns a value with a realm and parts.
func of(realm string, parts ...string) api.Name {
	return api.Name{Realm: realm, Parts: parts}
}

// long returns a word of n bytes.
func long(n int) string {
	return strings.Repeat("w", n)
}

// several returns n parts.
func several(n int) []string {
	return slices.Repeat([]string{"p"}, n)
}

// The texts of words and of names, as patterns.
const wordPattern = `(?:[!-.0-?A-\[\]-~]|\\[/@\\])+`

var (
	wordText = regexp.MustCompile(wordPattern)
	nameText = regexp.MustCompile(`\A(` + wordPattern + `(?:/` + wordPattern + `){0,7})@(` + wordPattern + `)\z`)
)

// The ways from a word to its text, and back.
var (
	toText   = strings.NewReplacer("/", `\/`, "@", `\@`, `\`, `\\`)
	fromText = strings.NewReplacer(`\/`, "/", `\@`, "@", `\\`, `\`)
)

// wordOf reports in a way of its own whether s is a word.
func wordOf(s string) bool {
	for _, c := range []byte(s) {
		if !strings.Contains("!\"#$%&'()*+,-./0123456789:;<=>?@ABCDEFGHIJKLMNOPQRSTUVWXYZ[\\]^_`abcdefghijklmnopqrstuvwxyz{|}~", string([]byte{c})) {
			return false
		}
	}
	return 0 < len(s) && len(s) < 101
}

// validOf reports in a way of its own whether n is a name.
func validOf(n api.Name) bool {
	words := append([]string{n.Realm}, n.Parts...)
	return 1 < len(words) && len(words) < 10 && !slices.ContainsFunc(words, func(s string) bool { return !wordOf(s) })
}

// textOf returns the text of a name in a way of its own.
func textOf(n api.Name) string {
	var texts []string
	for _, part := range n.Parts {
		texts = append(texts, toText.Replace(part))
	}
	return strings.Join(texts, "/") + "@" + toText.Replace(n.Realm)
}

// nameOf returns the name with a text in a way of its own.
func nameOf(s string) (api.Name, bool) {
	found := nameText.FindStringSubmatch(s)
	if found == nil {
		return api.Name{}, false
	}
	n := of(fromText.Replace(found[2]))
	for _, part := range wordText.FindAllString(found[1], -1) {
		n.Parts = append(n.Parts, fromText.Replace(part))
	}
	return n, validOf(n)
}

// bytesOf returns the bytes of a name, or of another value, in a way of its own.
func bytesOf(n api.Name) []byte {
	b := append([]byte{byte(len(n.Realm))}, n.Realm...)
	b = append(b, byte(len(n.Parts)))
	for _, part := range n.Parts {
		b = append(append(b, byte(len(part))), part...)
	}
	return b
}

// stringOf divides bytes into the string with a length of 1 byte that they begin with, and what follows.
func stringOf(b []byte) (s string, rest []byte, ok bool) {
	if len(b) == 0 || len(b)-1 < int(b[0]) {
		return "", nil, false
	}
	end := 1 + int(b[0])
	return string(b[1:end]), b[end:], true
}

// readOf returns the name whose bytes b begins with, and the number of bytes behind them, in a way of its own.
func readOf(b []byte) (api.Name, int, bool) {
	realm, b, ok := stringOf(b)
	if !ok || len(b) == 0 {
		return api.Name{}, 0, false
	}
	n := of(realm)
	count := int(b[0])
	b = b[1:]
	for range count {
		var part string
		if part, b, ok = stringOf(b); !ok {
			return api.Name{}, 0, false
		}
		n.Parts = append(n.Parts, part)
	}
	return n, len(b), validOf(n)
}

// same reports whether two values are the same.
func same(a, b api.Name) bool {
	return a.Realm == b.Realm && slices.Equal(a.Parts, b.Parts)
}

// isZero reports whether a value is zero.
func isZero(n api.Name) bool {
	return n.Realm == "" && len(n.Parts) == 0
}

// checkParse checks what Parse makes of a string.
func checkParse(t *testing.T, s string) {
	t.Helper()
	want, wantOK := nameOf(s)
	got, ok := name.Parse(s)
	switch {
	case ok != wantOK:
		t.Errorf("Parse(%q) returns %q, %v", s, got, ok)
	case ok && !same(got, want):
		t.Errorf("Parse(%q) returns %q, not %q", s, got, want)
	case !ok && !isZero(got):
		t.Errorf("Parse(%q) returns %q together with false", s, got)
	}
}

// checkNoText checks that a string is no text.
func checkNoText(t *testing.T, s string) {
	t.Helper()
	if got, ok := name.Parse(s); ok || !isZero(got) {
		t.Errorf("Parse(%q) returns %q, %v", s, got, ok)
	}
	if _, ok := nameOf(s); ok {
		t.Errorf("the test itself takes %q as a text", s)
	}
}

// checkRead checks what Read makes of bytes.
func checkRead(t *testing.T, b []byte) {
	t.Helper()
	want, left, wantOK := readOf(b)
	r := wire.New(b)
	got, ok := name.Read(r)
	switch {
	case ok != wantOK:
		t.Errorf("Read of %q returns %q, %v", b, got, ok)
	case ok && (!same(got, want) || r.Left() != left || r.Bad()):
		t.Errorf("Read of %q returns %q, not %q, and leaves %d, not %d; the reader is bad: %v", b, got, want, r.Left(), left, r.Bad())
	case !ok && !isZero(got):
		t.Errorf("Read of %q returns %q together with false", b, got)
	}
}

// checkNoBytes checks that there is no name at the beginning of bytes.
func checkNoBytes(t *testing.T, what string, b []byte) {
	t.Helper()
	if got, ok := name.Read(wire.New(b)); ok || !isZero(got) {
		t.Errorf("%s: Read of %q returns %q, %v", what, b, got, ok)
	}
	if _, _, ok := readOf(b); ok {
		t.Errorf("%s: the test itself takes %q as bytes of a name", what, b)
	}
}

// checkName checks all that the promises say of a name.
func checkName(t *testing.T, n api.Name) {
	t.Helper()
	if !validOf(n) || !name.Valid(n) {
		t.Errorf("%q is a name: Valid returns %v, and the test itself %v", n, name.Valid(n), validOf(n))
	}
	s := textOf(n)
	if got := name.Text(n); got != s {
		t.Errorf("Text(%q) returns %q, not %q", n, got, s)
	}
	if got, ok := name.Parse(s); !same(got, n) || !ok {
		t.Errorf("Parse(%q) returns %q, %v, not %q", s, got, ok, n)
	}
	b := bytesOf(n)
	if got, ok := name.Bytes(n); !bytes.Equal(got, b) || !ok {
		t.Errorf("Bytes(%q) returns %q, %v, not %q", n, got, ok, b)
	}
	for _, rest := range []string{"", "\x00", "p", "\x01p", "behind"} {
		r := wire.New(append(bytes.Clone(b), rest...))
		if got, ok := name.Read(r); !same(got, n) || !ok || r.Bad() || string(r.Take(r.Left())) != rest {
			t.Errorf("Read of %q, with %q behind it, returns %q, %v, not %q", b, rest, got, ok, n)
		}
	}
	if !name.Same(n, of(strings.Clone(n.Realm), slices.Clone(n.Parts)...)) {
		t.Errorf("%q is not the same as itself", n)
	}
}

// checkOther checks all that the promises say of a value that is no name.
func checkOther(t *testing.T, n api.Name) {
	t.Helper()
	if validOf(n) || name.Valid(n) {
		t.Errorf("%q is no name: Valid returns %v, and the test itself %v", n, name.Valid(n), validOf(n))
	}
	if got := name.Text(n); got != "" {
		t.Errorf("Text(%q) returns %q", n, got)
	}
	if got, ok := name.Bytes(n); len(got) != 0 || ok {
		t.Errorf("Bytes(%q) returns %q, %v", n, got, ok)
	}
	checkNoText(t, textOf(n))
	if !name.Same(n, of(strings.Clone(n.Realm), slices.Clone(n.Parts)...)) {
		t.Errorf("%q is not the same as itself", n)
	}
}

// checkWord checks a word, or another string, as the realm and as each of some parts.
func checkWord(t *testing.T, s string) {
	t.Helper()
	check := checkOther
	if wordOf(s) {
		check = checkName
	}
	check(t, of(s, "p"))
	check(t, of("R", s))
	check(t, of(s, s, s))
	for i := range 8 {
		n := of("R", several(8)...)
		n.Parts[i] = s
		check(t, n)
	}
}

// TestExamples: P11.1 to P11.4; the example of the chapter and others.
func TestExamples(t *testing.T) {
	for _, x := range []struct {
		n    api.Name
		s, b string
	}{
		{of("R", "host", "a/b"), `host/a\/b@R`, "\x01R\x02\x04host\x03a/b"},
		{of("R", "p"), "p@R", "\x01R\x01\x01p"},
		{of("R", "a", "b", "c", "d", "e", "f", "g", "h"), "a/b/c/d/e/f/g/h@R", "\x01R\x08\x01a\x01b\x01c\x01d\x01e\x01f\x01g\x01h"},
		{of("EXAMPLE.ORG", "http", "www.example.org"), "http/www.example.org@EXAMPLE.ORG", "\x0bEXAMPLE.ORG\x02\x04http\x0fwww.example.org"},
		{of("/", "@", `\`), `\@/\\@\/`, "\x01/\x02\x01@\x01\\"},
		{of(`\\`, "//@@"), `\/\/\@\@@\\\\`, "\x02\\\\\x01\x04//@@"},
		{of(`@R/`, `\/a`, `a\`, `/`), `\\\/a/a\\/\/@\@R\/`, "\x03@R/\x03\x03\\/a\x02a\\\x01/"},
		{of("~", "!"), "!@~", "\x01~\x01\x01!"},
	} {
		checkName(t, x.n)
		if got := name.Text(x.n); got != x.s {
			t.Errorf("Text(%q) returns %q, not %q", x.n, got, x.s)
		}
		if got, _ := name.Bytes(x.n); string(got) != x.b {
			t.Errorf("Bytes(%q) returns %q, not %q", x.n, got, x.b)
		}
	}
}

// TestBytesOfWords: P11.1 to P11.4; each byte alone, and at the beginning, in the middle and at the end of a string.
func TestBytesOfWords(t *testing.T) {
	words := 0
	for i := range 256 {
		s := string([]byte{byte(i)})
		for _, word := range []string{s, s + "ab", "a" + s + "b", "ab" + s, s + s, long(50) + s + long(49), long(99) + s} {
			checkWord(t, word)
		}
		if name.Valid(of("R", s)) {
			words++
		}
		if got := name.Valid(of(s, "p")); got != (i >= 33 && i <= 126) {
			t.Errorf("the byte %d as a realm: %v", i, got)
		}
	}
	if words != 94 {
		t.Errorf("%d bytes are words, not 94", words)
	}
}

// TestRunes: P11.1 to P11.3; greater runes, among them those whose lowest byte is one of a word, and bytes that are no text in UTF-8.
func TestRunes(t *testing.T) {
	for _, s := range []string{"Ä", "é", "ß", "š", "ġ", "ž", "\u0080", "\u00a1", "\u0100", "\u0121", "\u0161", "\u017e", "\u0421", "\u2161", "\ufffd", "\uffff", "\U00010061", "\U0010ff61", "\x80", "\xa1", "\xc3", "\xff", "\xfe", "\xc1\xa1", "\xe0\x81\xa1", "\xed\xa0\x80", "\xf4\x90\x80\x80", "\xf0\x9f\x98"} {
		for _, word := range []string{s, s + "a", "a" + s, "a" + s + "b", s + s} {
			checkWord(t, word)
			checkNoText(t, word+"@R")
			checkNoText(t, "p@"+word)
		}
	}
}

// TestLengthsOfWords: P11.1 to P11.4; words have 1 to 100 bytes.
func TestLengthsOfWords(t *testing.T) {
	for _, n := range []int{0, 1, 2, 50, 98, 99, 100, 101, 102, 127, 128, 200, 255, 256, 257, 300, 356, 357, 1000, 65537} {
		for _, c := range []string{"w", "/", "@", `\`, "~"} {
			s := strings.Repeat(c, n)
			checkWord(t, s)
			if got := name.Valid(of(s, "p")); got != (n >= 1 && n <= 100) {
				t.Errorf("%d bytes as a realm: %v", n, got)
			}
			if got := name.Valid(of("R", s)); got != (n >= 1 && n <= 100) {
				t.Errorf("%d bytes as a part: %v", n, got)
			}
		}
	}
	checkWord(t, strings.Repeat("é", 50))
	checkName(t, of(long(100), slices.Repeat([]string{long(100)}, 8)...))
}

// TestNumbersOfParts: P11.1 to P11.4; names have 1 to 8 parts.
func TestNumbersOfParts(t *testing.T) {
	checkOther(t, api.Name{})
	checkOther(t, api.Name{Realm: "R"})
	checkOther(t, api.Name{Realm: "R", Parts: []string{}})
	checkOther(t, api.Name{Realm: "R", Parts: make([]string, 0, 3)})
	checkOther(t, api.Name{Parts: []string{"p"}})
	for n := range 600 {
		check := checkOther
		if n >= 1 && n <= 8 {
			check = checkName
		}
		check(t, of("R", several(n)...))
		check(t, of("R@/", slices.Repeat([]string{`/\@`}, n)...))
	}
}

// TestSame: P11.1; names and other values, which differ in one thing each.
func TestSame(t *testing.T) {
	l := []api.Name{
		{}, of("", ""), of("", "", ""), of("R"), of("S"), of("", "R"), of("R", ""), of("R", "", ""), of("R", "a"), of("S", "a"), of("a", "R"), of("r", "a"), of("R ", "a"),
		of("R", "b"), of("R", "a", ""), of("R", "", "a"), of("R", "a", "b"), of("R", "b", "a"), of("R", "ab"), of("R", "a/b"), of("R", "a", "b", "c"), of("R", "a", "x", "c"), of("R", "a", "b", "d"), of("R", "x", "b", "c"),
		of("R", "A"), of("R", "a "), of("Ra", ""), of("\xff", "\x80"), of("\x80", "\xff"), of("\ufffd", "\x80"), of("R", "\xff"), of("R", "\xfe"), of("R", "\ufffd"), of("é", "é"), of("R", "a\x00"), of("R", "a\x00b"),
		of(long(100), "a"), of(long(101), "a"), of(long(102), "a"), of("R", long(100)), of("R", long(101)), of("R", long(1000)), of("R", long(999)+"v"),
		of("R", several(8)...), of("R", several(9)...), of("R", several(10)...), of("R", several(255)...), of("R", several(511)...), of("R", append(several(8), "q")...), of("R", append(several(510), "q")...),
	}
	for i, a := range l {
		for j, b := range l {
			if got := name.Same(a, of(b.Realm, slices.Clone(b.Parts)...)); got != (i == j) {
				t.Errorf("Same(%q, %q) returns %v", a, b, got)
			}
		}
	}
}

// TestSameNil: P11.1, and rule 4; nil parts and empty ones are the same.
func TestSameNil(t *testing.T) {
	for _, realm := range []string{"", "R"} {
		l := []api.Name{{Realm: realm}, {Realm: realm, Parts: []string{}}, {Realm: realm, Parts: make([]string, 0, 9)}, {Realm: realm, Parts: several(9)[:0]}}
		for _, a := range l {
			for _, b := range l {
				if !name.Same(a, b) {
					t.Errorf("Same(%q, %q) returns false", a, b)
				}
			}
		}
	}
}

// TestParseNone: P11.2; what is no text.
func TestParseNone(t *testing.T) {
	for _, s := range []string{
		"", "p", "R", "p/q", "p/q/R", long(100), // no at sign
		"@", "p@", "@R", "@@", "/@", "@/", "/@R", "p/@R", "/p@R", "p//q@R", "p/q/@R", "//@R", "/", "//", // an empty word
		"p@R@", "p@R@S", "p@@R", "@p@R", "p@R@S@T", "p@@", // two at signs
		"p@R/", "p@/R", "p@R/S", "p@R/q@S", "p/q@R/S", "p@R/q", // parts behind the at sign
		`\`, `p\`, `p@R\`, `p@\`, `p@R\\\`, `p\@R`, `\@R`, `p/q\@R`, `p\/q\@R`, `p\\\@R`, `p/\`, `p/q\`, `@\`, // a backslash at the end, or in front of the at sign
		`\p@R`, `p\q@R`, `p@\R`, `p@R\S`, `\\\p@R`, `p/\q@R`, `\ @R`, "\\\x00@R", `\0@R`, `\n@R`, `\.@R`, `\~@R`, "\\\xff@R", `\é@R`, // a backslash in front of another byte
		" @R", "p @R", " p@R", "p@ R", "p@R ", "p@ ", "p/ @R", "p\n@R", "p@R\n", "p\x7f@R", "p@R\x7f", "p\x00@R", "p@R\x00", "\x00", "\x00@\x00", "p\x00R", "p@R\x00@S", "p/q\x00@R", "é@R", "p@é", "p\xff@R", "p@\xff", // other bytes
		"a/b/c/d/e/f/g/h/i@R", "a/b/c/d/e/f/g/h/@R", "/a/b/c/d/e/f/g/h@R", strings.Repeat("a/", 254) + "a@R", strings.Repeat("a/", 256) + "a@R", strings.Repeat("/", 1000) + "@R", // the numbers of parts
		long(101) + "@R", "p@" + long(101), "p/" + long(101) + "@R", strings.Repeat(`\/`, 101) + "@R", "p@" + strings.Repeat(`\@`, 101), long(1<<20) + "@R", "p@" + long(1<<20), long(1 << 20), // words that are too long
	} {
		checkNoText(t, s)
	}
}

// TestParseSome: P11.2; texts that look as if they were none.
func TestParseSome(t *testing.T) {
	for s, want := range map[string]api.Name{
		`\@@\@`: of("@", "@"), `\/@\/`: of("/", "/"), `\\@\\`: of(`\`, `\`), `\\/\\@R`: of("R", `\`, `\`), `p\\@R`: of("R", `p\`), `p\\/q@R`: of("R", `p\`, "q"),
		`p\@q@R`: of("R", "p@q"), `p@R\@S`: of("R@S", "p"), `p@R\/S`: of("R/S", "p"), `\/\/@R`: of("R", "//"), `p\\\@@R`: of("R", `p\@`), `p@\\\\\\`: of(`\\\`, "p"), `\/p\//\/q\/@\/R\/`: of("/R/", "/p/", "/q/"),
		"a/b/c/d/e/f/g/h@R": of("R", "a", "b", "c", "d", "e", "f", "g", "h"), `a\/b/c/d/e/f/g/h/i@R`: of("R", "a/b", "c", "d", "e", "f", "g", "h", "i"),
		strings.Repeat(`\/`, 100) + "@R": of("R", strings.Repeat("/", 100)), "p@" + strings.Repeat(`\@`, 100): of(strings.Repeat("@", 100), "p"),
	} {
		if got, ok := name.Parse(s); !same(got, want) || !ok {
			t.Errorf("Parse(%q) returns %q, %v, not %q", s, got, ok, want)
		}
		checkParse(t, s)
		checkName(t, want)
	}
}

// forAll calls f with s, followed by each string of up to n of the letters.
func forAll(s, letters string, n int, f func(s string)) {
	f(s)
	if n == 0 {
		return
	}
	for i := range len(letters) {
		forAll(s+letters[i:i+1], letters, n-1, f)
	}
}

// TestParseAll: P11.2; all short strings of letters, special bytes and a space.
func TestParseAll(t *testing.T) {
	forAll("", `a/@\ `, 7, func(s string) { checkParse(t, s) })
	forAll("", `a/@\`, 3, func(s string) {
		checkParse(t, "a/b/c/d/e/f"+s+"@R")
		checkParse(t, "a/b/c/d/e/f/g"+s)
		checkParse(t, s+`a/b/c/d/e/f\//g@R`)
		checkParse(t, long(98)+s+"@R")
		checkParse(t, "p@"+s+long(99))
	})
}

// TestTextAll: P11.2 and P11.4; names of all short words of letters and special bytes, whose texts are all different.
func TestTextAll(t *testing.T) {
	var words []string
	forAll("", `a/@\`, 2, func(s string) {
		if s != "" {
			words = append(words, s)
		}
	})
	found := map[string]api.Name{}
	for _, realm := range words {
		for _, first := range words {
			for _, parts := range [][]string{{first}, {first, "a"}, {"/", first}, {first, first}, {`\`, first, "@"}} {
				n := of(realm, parts...)
				checkName(t, n)
				s := name.Text(n)
				if other, ok := found[s]; ok && !same(other, n) {
					t.Errorf("%q and %q have the same text", other, n)
				}
				found[s] = n
			}
		}
	}
}

// random returns a name, mostly of special bytes.
func random(source *rand.Rand) api.Name {
	word := func() string {
		b := make([]byte, 1+source.Intn(1+source.Intn(100)))
		for i := range b {
			b[i] = `/@\ab`[source.Intn(5)]
			if source.Intn(4) == 0 {
				b[i] = byte(33 + source.Intn(94))
			}
		}
		return string(b)
	}
	n := of(word())
	for range 1 + source.Intn(8) {
		n.Parts = append(n.Parts, word())
	}
	return n
}

// changed returns bytes with one of them changed, left out or put in.
func changed(source *rand.Rand, b []byte, letters string) []byte {
	i := source.Intn(len(b))
	c := letters[source.Intn(len(letters))]
	switch source.Intn(3) {
	case 0:
		return slices.Concat(b[:i], []byte{c}, b[i+1:])
	case 1:
		return slices.Concat(b[:i], b[i+1:])
	}
	return slices.Concat(b[:i], []byte{c}, b[i:])
}

// TestRandom: P11.1 to P11.4; names of many words, and their texts and bytes with a change.
func TestRandom(t *testing.T) {
	source := rand.New(rand.NewSource(1))
	for range 2000 {
		n := random(source)
		checkName(t, n)
		for range 20 {
			checkParse(t, string(changed(source, []byte(textOf(n)), "/@\\a~! \x7f\x00\xff")))
			checkRead(t, changed(source, bytesOf(n), "\x00\x01\x02\x08\x09\x64\x65 a~\x7f\x80\xff"))
		}
	}
}

// TestReadCut: P11.3; bytes that are cut off at each place, and bytes behind a name.
func TestReadCut(t *testing.T) {
	for _, n := range []api.Name{of("R", "p"), of("R", "host", "a/b"), of(`\/@`, "@", "/", `\`), of("R", several(8)...), of(long(100), long(100), "p", long(99))} {
		b := bytesOf(n)
		for i := range b {
			checkNoBytes(t, "cut off", b[:i])
			checkNoBytes(t, "cut off, with a capacity", append(make([]byte, 0, 300), b[:i]...))
		}
		checkRead(t, b)
		for _, c := range []byte{0, 1, 'p', 255} {
			checkRead(t, append(bytes.Clone(b), c))
			checkRead(t, slices.Concat(b, bytes.Repeat([]byte{c}, 300)))
		}
	}
}

// TestReadNumbers: P11.3; each number of parts, and each number of those that are there.
func TestReadNumbers(t *testing.T) {
	for count := range 256 {
		for _, there := range []int{0, 1, 2, 7, 8, 9, 10, 254, 255, 256} {
			b := slices.Concat([]byte{1, 'R', byte(count)}, bytes.Repeat([]byte{1, 'p'}, there))
			checkRead(t, b)
			if _, ok := name.Read(wire.New(b)); ok != (count >= 1 && count <= 8 && count <= there) {
				t.Errorf("%d of %d parts are read: %v", count, there, ok)
			}
		}
	}
}

// TestReadWords: P11.3; realms and parts of each length and of each byte.
func TestReadWords(t *testing.T) {
	words := []string{"Ä", "a b", "a\x00", "\xc1\xa1", long(99) + " ", long(99) + "\x7f", "\u0161"}
	for n := range 256 {
		words = append(words, long(n), string([]byte{byte(n)}), "a"+string([]byte{byte(n)})+"b")
	}
	for _, s := range words {
		for _, n := range []api.Name{of(s, "p"), of("R", s), of("R", "p", s, "q"), of("R", "p", "q", s)} {
			b := bytesOf(n)
			checkRead(t, b)
			checkRead(t, append(b, "behind"...))
			if got, ok := name.Read(wire.New(b)); ok != wordOf(s) || ok && !same(got, n) {
				t.Errorf("the bytes of %q are read as %q, %v", n, got, ok)
			}
		}
	}
	checkNoBytes(t, "no bytes", nil)
	checkNoBytes(t, "no bytes", []byte{})
	checkNoBytes(t, "zeros", make([]byte, 100))
	checkNoBytes(t, "a length of two bytes", []byte{0, 1, 'R', 1, 0, 1, 'p'})
	checkNoBytes(t, "the parts first", []byte{1, 1, 'p', 1, 'R'})
	checkNoBytes(t, "a text", []byte("p@R"))
}

// TestReadAll: P11.3; all short strings of lengths, letters and bytes that words don't have.
func TestReadAll(t *testing.T) {
	forAll("", "\x00\x01\x02a ", 7, func(s string) { checkRead(t, []byte(s)) })
	forAll("\x01R\x02", "\x00\x01\x02a/", 6, func(s string) { checkRead(t, []byte(s)) })
}

// TestReadSeveral: P11.3; several names in one reader, with other bytes between them.
func TestReadSeveral(t *testing.T) {
	source := rand.New(rand.NewSource(2))
	var l []api.Name
	b := []byte{5}
	for range 100 {
		n := random(source)
		l = append(l, n)
		b = slices.Concat(b, bytesOf(n), bytesOf(n), []byte{1, 2, 3})
	}
	r := wire.New(b)
	r.Take(1)
	for i, n := range l {
		for range 2 {
			if got, ok := name.Read(r); !same(got, n) || !ok || r.Bad() {
				t.Fatalf("the name %d is read as %q, %v, not %q", i, got, ok, n)
			}
		}
		if x := r.Number(3); x != 0x010203 {
			t.Fatalf("behind the name %d, %#x is read", i, x)
		}
	}
	if !r.Done() {
		t.Errorf("behind all names, %d bytes are left", r.Left())
	}
	if got, ok := name.Read(r); ok || !isZero(got) {
		t.Errorf("behind all names, Read returns %q, %v", got, ok)
	}
}

// TestReadAfterError: P11.3; a reader on which a read has failed, an empty one and a nil one have no name.
func TestReadAfterError(t *testing.T) {
	whole := bytesOf(of("R", "p"))
	for what, fail := range map[string]func(r *wire.Reader){
		"too many bytes":  func(r *wire.Reader) { r.Take(1000) },
		"a bad width":     func(r *wire.Reader) { r.Number(9) },
		"a negative size": func(r *wire.Reader) { r.Take(-1) },
		"a long string":   func(r *wire.Reader) { r.String(2) },
		"nothing left":    func(r *wire.Reader) { r.Take(len(whole)) },
	} {
		r := wire.New(whole)
		fail(r)
		for range 3 {
			if got, ok := name.Read(r); ok || !isZero(got) {
				t.Errorf("%s: Read returns %q, %v", what, got, ok)
			}
		}
	}
	if got, ok := name.Read(nil); ok || !isZero(got) {
		t.Errorf("Read of nil returns %q, %v", got, ok)
	}
	r := wire.New(whole[:len(whole)-1])
	for range 3 {
		if got, ok := name.Read(r); ok || !isZero(got) {
			t.Errorf("Read of a name that is cut off returns %q, %v", got, ok)
		}
	}
}

// TestArgumentsStay: rule 5; parts, and the unused capacity behind them, stay as they are.
func TestArgumentsStay(t *testing.T) {
	words := []string{"host", "a/b", `\@`, "", "a b", long(101), "é", "x", "y", "z", "end"}
	for n := range words {
		all := slices.Clone(words)
		a, b := of("R@", all[:n]...), of("R@", slices.Clone(all[:n])...)
		name.Valid(a)
		name.Text(a)
		name.Bytes(a)
		name.Same(a, b)
		name.Same(b, a)
		name.Same(a, of("S"))
		if !slices.Equal(all, words) || a.Realm != "R@" || len(a.Parts) != n || !slices.Equal(b.Parts, words[:n]) {
			t.Errorf("a value with %d parts was changed: %q", n, all)
		}
	}
}

// TestResultsAreNew: rule 5; a change of one result changes neither another one nor an argument.
func TestResultsAreNew(t *testing.T) {
	n := of("R", "host", `a/b\`, "c")
	s, b := textOf(n), bytesOf(n)
	spoil := func(l []string) {
		for i := range l[:cap(l)] {
			l[:cap(l)][i] = "spoilt"
		}
	}
	first, _ := name.Parse(s)
	second, _ := name.Parse(s)
	spoil(first.Parts)
	if !same(second, n) {
		t.Errorf("a change of a result changed what Parse returned: %q", second)
	}
	r := wire.New(slices.Concat(b, b, b))
	first, _ = name.Read(r)
	second, _ = name.Read(r)
	spoil(first.Parts)
	third, ok := name.Read(r)
	if !same(second, n) || !same(third, n) || !ok || !r.Done() {
		t.Errorf("a change of a result changed what Read returned: %q, %q", second, third)
	}
	one, _ := name.Bytes(n)
	two, _ := name.Bytes(n)
	clear(one[:cap(one)])
	if !bytes.Equal(two, b) || !same(n, of("R", "host", `a/b\`, "c")) {
		t.Errorf("a change of a result changed what Bytes returned, or its argument: %q, %q", two, n)
	}
	spoil(n.Parts)
	if !bytes.Equal(two, b) || s != `host/a\/b\\/c@R` {
		t.Errorf("a change of an argument changed a result: %q, %q", two, s)
	}
}

// TestAgain: rules 7 and 8; nothing is left of earlier calls, and calls at the same time do not meet.
func TestAgain(t *testing.T) {
	shared := of("R@", "host", "a/b", `\`)
	var group sync.WaitGroup
	for i := range 8 {
		group.Go(func() {
			source := rand.New(rand.NewSource(int64(i)))
			for range 100 {
				for _, n := range []api.Name{random(source), shared} {
					checkName(t, n)
				}
				checkOther(t, of("R", "a b"))
				checkNoText(t, `p@R\`)
				checkNoBytes(t, "beside other calls", []byte{1, 'R', 1, 2, 'p'})
			}
		})
	}
	group.Wait()
}
