package ticket_test

import (
	"bytes"
	"encoding/binary"
	"encoding/hex"
	"math"
	"math/rand"
	"slices"
	"strings"
	"sync"
	"testing"

	"toll/api"
	"toll/name"
	"toll/seal"
	"toll/ticket"
	"toll/wire"
)

// The numbers of the chapter.
const (
	usage     = 2
	latest    = 1 << 40 // of the times of a ticket
	overhead  = 24      // that a sealed string has
	maxSealed = 1 << 20 // bytes that may be sealed
)

// key and nonce are those of most tests.
var (
	key   = [16]byte{0, 1, 2, 3, 4, 5, 6, 7, 8, 9, 10, 11, 12, 13, 14, 15}
	nonce = [8]byte{0xa0, 0xa1, 0xa2, 0xa3, 0xa4, 0xa5, 0xa6, 0xa7}
)

// known are tickets with their bytes, and with the sealed tickets that Python's HMAC-SHA256 and OpenSSL's AES-128-CTR make.
var known = []struct {
	key, nonce    string
	realm         string
	parts         []string
	start, end    int64
	ticketKey     string
	bytes, sealed string
}{
	{
		key: "00000000000000000000000000000000", nonce: "0000000000000000",
		realm: "R", parts: []string{"alice"}, start: 0, end: 0, ticketKey: "00000000000000000000000000000000",
		bytes:  "0101520105616c6963650000000000000000000000000000000000000000000000000000000000000000",
		sealed: "0000000000000000d7294236741fb77c62e26441f74441e40028177627b71f47dc1ff627f68e7efc4e402091b2de348885ac9c7ebfd563e92409463b451249b773cb",
	},
	{
		key: "000102030405060708090a0b0c0d0e0f", nonce: "a0a1a2a3a4a5a6a7",
		realm: "R", parts: []string{"alice"}, start: 258, end: 1099511627776, ticketKey: "01020000000000000000000000000010",
		bytes:  "0101520105616c6963650000000000000102000001000000000001020000000000000000000000000010",
		sealed: "a0a1a2a3a4a5a6a71705b98958c015334d684666a0930d072d0ccbbaf8aaeccf79738ddbd0dcff978c5c51ecc37dfce04497ab0b403c1c85a4dd00b9fd499388439c",
	},
	{
		key: "de767d796adadc442c1e50a84c1d7587", nonce: "79e099aadb888b59",
		realm: "EXAMPLE.ORG", parts: []string{"host", "a/b"}, start: 1099511627776, end: 1099511627776, ticketKey: "e5748124ff39b361f2bfc7027ba222ff",
		bytes:  "010b4558414d504c452e4f52470204686f737403612f6200000100000000000000010000000000e5748124ff39b361f2bfc7027ba222ff",
		sealed: "79e099aadb888b59bab3c6090845e4bdcc03bbf980da87b4205c9c42439ad439d335a8d90e2923ecb4cd71d17f45b4478dab7a9e8ba4cb50ca68ac1d29c9face23f4e14ad8fb84435ba3561c44c6ae",
	},
	{
		key: "11e9ef5fe2a9877bdb0428468c6fb6a4", nonce: "ffffffffffffffff",
		realm: "~", parts: []string{"!", "!", "!", "!", "!", "!", "!", "!"}, start: 0, end: 1099511627776, ticketKey: "ffffffffffffffffffffffffffffffff",
		bytes:  "01017e080121012101210121012101210121012100000000000000000000010000000000ffffffffffffffffffffffffffffffff",
		sealed: "ffffffffffffffffd3985409a3f120918e53bbcfbb86e9d59cb75acdc04fda2b719623317611a85506c2017185d9c7e5038fb161e776b87b8b5c6c09245a7af662bba8fecf6ecd6e37aa96ef",
	},
	{
		key: "58f872cf66ddd0751caecab01caf45dd", nonce: "b116f999b0e6463a",
		realm: "@/\\", parts: []string{"\\", "@", "/"}, start: 1234567890, end: 1234567891, ticketKey: "068be58ec72c6d00b9564ca9e1b9cd9f",
		bytes:  "0103402f5c03015c0140012f00000000499602d200000000499602d3068be58ec72c6d00b9564ca9e1b9cd9f",
		sealed: "b116f999b0e6463a1cbb0fc19bc5b536ca88f9fe49d948ed60844534e405d7a703b4b486d9877e225d042ae9c5b9b428b8a2f33021a557c0f932564c644184d4992452eb",
	},
	{
		key: "41903225d6db60fa496ea77078a91e5e", nonce: "f8598a29ab47f556",
		realm: "toll.example", parts: []string{"HTTP", "www.toll.example", long(100)}, start: 4328719365, end: 1034563928240, ticketKey: "67d8ede7740dd335691c0f0f71cc8293",
		bytes:  "010c746f6c6c2e6578616d706c65030448545450107777772e746f6c6c2e6578616d706c6564787878787878787878787878787878787878787878787878787878787878787878787878787878787878787878787878787878787878787878787878787878787878787878787878787878787878787878787878787878787878787878787878787878780000000102030405000000f0e0d0c0b067d8ede7740dd335691c0f0f71cc8293",
		sealed: "f8598a29ab47f556d98c28a0c66ea1eaaae20469d8ce30781645028094fdfa31c3b6a2be9e8037182ffebbdb6484a6872753e8673be651aff810a7e02fadcda6e8bb102a65160e2ecf5435c3217dc2348d7eb42b6258a586c74d205096f38358749a77bac1bf2ee647ce919dab284dffc8d678c4c511fad6829207e986dd3e05ea403d6dbc086e9852b8d519ee6be7b82ed1528a4a99e469184efa0d6e200a95c1cbcc663d7cb3be0aeb22f71d15e15b8890b662b6103212290ac465507b7e5739b2",
	},
}

// edges are times at and around the limits of a ticket, of its bytes and of 64 bits.
var edges = []int64{
	math.MinInt64, math.MinInt64 + 1, math.MinInt64 + latest, -latest - 1, -latest, -2, -1, 0, 1, 2, 255, 256, 257,
	1<<31 - 1, 1 << 31, 1<<32 - 1, 1 << 32, 1 << 39, latest - 2, latest - 1, latest, latest + 1, latest + 2, 1 << 41, 1<<56 + 1, 1 << 62, math.MaxInt64 - 1, math.MaxInt64,
}

// long returns a word of n bytes.
func long(n int) string {
	return strings.Repeat("x", n)
}

// client returns a value with a realm and parts.
func client(realm string, parts ...string) api.Name {
	return api.Name{Realm: realm, Parts: parts}
}

// several returns n parts.
func several(n int) []string {
	return slices.Repeat([]string{"p"}, n)
}

// from returns a value with a client of its own.
func from(n api.Name, start, end int64) api.Ticket {
	return api.Ticket{Client: n, Start: start, End: end, Key: [16]byte{0xf0, 0xf1, 15: 0xff}}
}

// during returns a value with times of its own.
func during(start, end int64) api.Ticket {
	return from(client("R", "alice"), start, end)
}

// decoded returns the bytes of a text of hexadecimal digits.
func decoded(t *testing.T, s string) []byte {
	t.Helper()
	b, err := hex.DecodeString(s)
	if err != nil {
		t.Fatal(err)
	}
	return b
}

// clientOf returns the bytes of a client, which need not be a name.
func clientOf(n api.Name) []byte {
	b := append([]byte{byte(len(n.Realm))}, n.Realm...)
	b = append(b, byte(len(n.Parts)))
	for _, part := range n.Parts {
		b = append(append(b, byte(len(part))), part...)
	}
	return b
}

// written returns the bytes of a ticket of any numbers.
func written(first byte, n api.Name, start, end uint64, key []byte) []byte {
	b := append([]byte{first}, clientOf(n)...)
	b = binary.BigEndian.AppendUint64(b, start)
	b = binary.BigEndian.AppendUint64(b, end)
	return append(b, key...)
}

// bytesOf returns the bytes of a ticket, or of another value, in a way of its own.
func bytesOf(x api.Ticket) []byte {
	return written(1, x.Client, uint64(x.Start), uint64(x.End), x.Key[:])
}

// ticketOf returns the ticket whose bytes are b, in a way of its own: with what is behind the client divided from the end.
func ticketOf(b []byte) (api.Ticket, bool) {
	at := len(b) - 32
	if at < 1 || b[0] != 1 {
		return api.Ticket{}, false
	}
	r := wire.New(b[1:at])
	n, ok := name.Read(r)
	start, end := binary.BigEndian.Uint64(b[at:]), binary.BigEndian.Uint64(b[at+8:])
	if !ok || r.Left() > 0 || start > end || end > latest {
		return api.Ticket{}, false
	}
	return api.Ticket{Client: n, Start: int64(start), End: int64(end), Key: [16]byte(b[at+16:])}, true
}

// same reports whether two values are the same.
func same(a, b api.Ticket) bool {
	return bytes.Equal(bytesOf(a), bytesOf(b)) && a.Client.Realm == b.Client.Realm && slices.Equal(a.Client.Parts, b.Client.Parts)
}

// isZero reports whether a value is zero.
func isZero(x api.Ticket) bool {
	return x.Client.Realm == "" && len(x.Client.Parts) == 0 && x.Start == 0 && x.End == 0 && x.Key == [16]byte{}
}

// checkParse checks what Parse makes of any bytes.
func checkParse(t *testing.T, what string, b []byte) {
	t.Helper()
	want, wantOK := ticketOf(b)
	got, ok := ticket.Parse(b)
	switch {
	case ok != wantOK:
		t.Errorf("%s: Parse(%x) returns %v, %v", what, b, got, ok)
	case ok && !same(got, want):
		t.Errorf("%s: Parse(%x) returns %v, not %v", what, b, got, want)
	case !ok && !isZero(got):
		t.Errorf("%s: Parse(%x) returns %v together with false", what, b, got)
	}
}

// checkOpen checks that a sealed ticket is opened.
func checkOpen(t *testing.T, key [16]byte, s []byte, want api.Ticket) {
	t.Helper()
	if got, code := ticket.Open(key, s); code != api.None || !same(got, want) {
		t.Errorf("Open(%x, %x) returns %v, %v, not %v", key, s, got, code, want)
	}
}

// checkShut checks that a string is not opened, and for which reason.
func checkShut(t *testing.T, what string, key [16]byte, s []byte, want api.Code) {
	t.Helper()
	if got, code := ticket.Open(key, s); code != want || !isZero(got) {
		t.Errorf("%s: Open(%x, %x) returns %v, %v, not %v", what, key, s, got, code, want)
	}
}

// checkNoBytes checks that bytes are those of no ticket, also when they were sealed.
func checkNoBytes(t *testing.T, what string, b []byte) {
	t.Helper()
	if got, ok := ticket.Parse(b); ok || !isZero(got) {
		t.Errorf("%s: Parse(%x) returns %v, %v", what, b, got, ok)
	}
	checkShut(t, what, key, seal.Seal(key, usage, nonce, b), api.Malformed)
}

// checkTicket checks all that the promises say of a ticket.
func checkTicket(t *testing.T, x api.Ticket) {
	t.Helper()
	if !ticket.Valid(x) {
		t.Errorf("Valid(%v) returns false", x)
	}
	if !ticket.Same(x, x) {
		t.Errorf("%v is not the same as itself", x)
	}
	b := bytesOf(x)
	if got, ok := ticket.Bytes(x); !bytes.Equal(got, b) || !ok {
		t.Errorf("Bytes(%v) returns %x, %v, not %x", x, got, ok, b)
	}
	if got, ok := ticket.Parse(b); !same(got, x) || !ok || !ticket.Same(got, x) {
		t.Errorf("Parse(%x) returns %v, %v, not %v", b, got, ok, x)
	}
	s := seal.Seal(key, usage, nonce, b)
	if got, ok := ticket.Seal(key, nonce, x); !bytes.Equal(got, s) || !ok {
		t.Errorf("Seal(%x, %x, %v) returns %x, %v, not %x", key, nonce, x, got, ok, s)
	}
	checkOpen(t, key, s, x)
}

// checkOther checks all that the promises say of a value that is no ticket.
func checkOther(t *testing.T, x api.Ticket) {
	t.Helper()
	if ticket.Valid(x) {
		t.Errorf("Valid(%v) returns true", x)
	}
	if !ticket.Same(x, x) {
		t.Errorf("%v is not the same as itself", x)
	}
	if b, ok := ticket.Bytes(x); len(b) != 0 || ok {
		t.Errorf("Bytes(%v) returns %x, %v", x, b, ok)
	}
	if s, ok := ticket.Seal(key, nonce, x); len(s) != 0 || ok {
		t.Errorf("Seal(%x, %x, %v) returns %x, %v", key, nonce, x, s, ok)
	}
	checkNoBytes(t, "bytes of no ticket", bytesOf(x))
}

// TestExample: P12.1 to P12.4; the example of the chapter.
func TestExample(t *testing.T) {
	checkOther(t, during(5, 4))
	checkTicket(t, during(4, 5))
}

// TestKnown: P12.1 to P12.5; bytes and sealed tickets of other programs.
func TestKnown(t *testing.T) {
	for _, k := range known {
		x := api.Ticket{Client: client(k.realm, k.parts...), Start: k.start, End: k.end, Key: [16]byte(decoded(t, k.ticketKey))}
		checkTicket(t, x)
		b, want := decoded(t, k.bytes), decoded(t, k.sealed)
		if got, ok := ticket.Bytes(x); !bytes.Equal(got, b) || !ok {
			t.Errorf("Bytes(%v) returns %x, %v, not %x", x, got, ok, b)
		}
		if got, ok := ticket.Parse(b); !same(got, x) || !ok {
			t.Errorf("Parse(%x) returns %v, %v, not %v", b, got, ok, x)
		}
		key, nonce := [16]byte(decoded(t, k.key)), [8]byte(decoded(t, k.nonce))
		if got, ok := ticket.Seal(key, nonce, x); !bytes.Equal(got, want) || !ok {
			t.Errorf("Seal(%x, %x, %v) returns %x, %v, not %x", key, nonce, x, got, ok, want)
		}
		checkOpen(t, key, want, x)
	}
}

// TestTimes: P12.1 to P12.5; all pairs of times at and around the limits.
func TestTimes(t *testing.T) {
	for _, start := range edges {
		for _, end := range edges {
			check := checkOther
			if 0 <= start && start <= end && end <= latest {
				check = checkTicket
			}
			check(t, during(start, end))
		}
	}
}

// TestTimesApart: P12.1; a Start that is equal to the End, one less and one greater.
func TestTimesApart(t *testing.T) {
	source := rand.New(rand.NewSource(1))
	for range 200 {
		end := 1 + source.Int63n(latest-1)
		checkTicket(t, during(end, end))
		checkTicket(t, during(end-1, end))
		checkOther(t, during(end+1, end))
		checkOther(t, during(-end, end))
	}
	checkTicket(t, during(0, 0))
	checkOther(t, during(-1, 0))
	checkOther(t, during(1, 0))
	checkTicket(t, during(latest, latest))
	checkTicket(t, during(latest-1, latest))
	checkOther(t, during(latest+1, latest))
}

// others are clients that are no names.
func others() []api.Name {
	l := []api.Name{
		{}, client("R"), client("", "p"), client("R", ""), client("R", "p", ""), client("R", "", "p"), client("", ""),
		client(long(101), "p"), client("R", long(101)), client("R", "p", long(101), "q"), client("R", several(9)...), client("R", several(10)...), client("R", several(255)...), client("R", several(256)...),
		client("R", append(several(8), "")...), client("R", append(several(7), long(101))...), client("R", append(several(7), "a b")...),
	}
	for _, c := range []string{" ", "\x00", "\x1f", "\x20", "\x7f", "\x80", "\xff", "\n", "é", "\u0161", "\ufffd"} {
		l = append(l, client(c, "p"), client("R"+c, "p"), client(c+"R", "p"), client("R", c), client("R", "p"+c), client("R", "p", c+"q", "r"))
	}
	return l
}

// TestClients: P12.1 to P12.5; clients that are names, and clients that are none.
func TestClients(t *testing.T) {
	for _, n := range others() {
		checkOther(t, from(n, 0, 0))
		checkOther(t, from(n, 3, latest))
		checkOther(t, from(n, 3, 2))
		checkOther(t, api.Ticket{Client: n})
	}
	for _, n := range []api.Name{
		client("R", "p"), client(long(100), "p"), client("R", long(100)), client("R", several(2)...), client("R", several(8)...), client(long(100), slices.Repeat([]string{long(100)}, 8)...),
		client("!", "~"), client(`\`, `/`, `@`), client("p@R", "p/q", `\@`), client("R", "R", "R"), client("1", "\x21"),
	} {
		checkTicket(t, from(n, 0, 0))
		checkTicket(t, from(n, 3, latest))
		checkOther(t, from(n, 3, 2))
		checkTicket(t, api.Ticket{Client: n})
	}
}

// TestTicketKeys: P12.1 and P12.2; a ticket has any key, and each bit of it has a place of its own.
func TestTicketKeys(t *testing.T) {
	x := during(1, 2)
	for bit := range 128 {
		var one, more [16]byte
		for i := range more {
			more[i] = 0xff
		}
		one[bit/8] ^= 1 << (bit % 8)
		more[bit/8] ^= 1 << (bit % 8)
		x.Key = one
		checkTicket(t, x)
		x.Key = more
		checkTicket(t, x)
	}
}

// variants returns a value, and others in which one field of it is changed.
func variants(x api.Ticket) []api.Ticket {
	l := []api.Ticket{x}
	for _, n := range []api.Name{
		client("S", "a", "b"), client("", "a", "b"), client("R ", "a", "b"), client("r", "a", "b"), client("R", "a"), client("R", "b", "a"), client("R", "a", "c"), client("R", "c", "b"), client("R", "a", "b", "c"),
		client("R", "a", "b", ""), client("R", "", "a", "b"), client("R", "ab"), client("R", "a/b"), client("R", "a", ""), client("R", "", ""), client("R", ""), client("R"), client(""), client("", ""),
		client(long(101), "a", "b"), client("R", "a", "\xff"), client("R", "a", "\xfe"), client("R", several(9)...), client("R", several(10)...),
	} {
		y := x
		y.Client = n
		l = append(l, y)
	}
	for _, time := range edges {
		start, end := x, x
		start.Start, end.End = time, time
		if time != x.Start {
			l = append(l, start)
		}
		if time != x.End {
			l = append(l, end)
		}
	}
	for bit := range 128 {
		y := x
		y.Key[bit/8] ^= 1 << (bit % 8)
		l = append(l, y)
	}
	return l
}

// TestSame: P12.1; each field changed alone, in tickets and in values that are none.
func TestSame(t *testing.T) {
	n := client("R", "a", "b")
	for _, x := range []api.Ticket{from(n, 10, 20), from(n, 20, 10), from(n, 0, 0), {Client: n}, from(n, -7, latest+7), from(n, math.MinInt64, math.MaxInt64), from(n, math.MaxInt64, math.MinInt64)} {
		l := variants(x)
		for i, a := range l {
			for j, b := range l {
				b.Client.Parts = slices.Clone(b.Client.Parts)
				if got := ticket.Same(a, b); got != (i == j) {
					t.Errorf("Same(%v, %v) returns %v", a, b, got)
				}
			}
		}
	}
	if ticket.Same(during(1, 2), during(2, 1)) || ticket.Same(api.Ticket{}, during(0, 0)) {
		t.Error("exchanged times, or a zero Ticket and another one, are the same")
	}
}

// TestSameNil: P12.1, and rule 4; nil parts and empty ones are the same.
func TestSameNil(t *testing.T) {
	for _, start := range []int64{0, 7} {
		var l []api.Ticket
		for _, parts := range [][]string{nil, {}, make([]string, 0, 9), several(9)[:0]} {
			l = append(l, from(client("R", parts...), start, 5), from(client("", parts...), start, 5))
		}
		for i, a := range l {
			for j, b := range l {
				if got := ticket.Same(a, b); got != (i%2 == j%2) {
					t.Errorf("Same(%v, %v) returns %v", a, b, got)
				}
			}
		}
	}
	if !ticket.Same(api.Ticket{}, api.Ticket{Client: client("")}) || !ticket.Same(api.Ticket{}, api.Ticket{Client: api.Name{Parts: []string{}}}) {
		t.Error("two zero Tickets are not the same")
	}
}

// samples are tickets with bytes of several lengths.
func samples() []api.Ticket {
	return []api.Ticket{
		during(258, latest), {Client: client("R", "p")}, from(client("R", several(8)...), 7, 7), from(client(`@/\`, `\`, "host/x"), 1<<32, 1<<33),
		{Client: client(long(100), long(99), long(100)), Start: latest, End: latest, Key: [16]byte(bytes.Repeat([]byte{1}, 16))},
	}
}

// TestParseCut: P12.2 and P12.4; bytes that are cut off at each place, without one at each place, and with more of them.
func TestParseCut(t *testing.T) {
	checkNoBytes(t, "nothing", nil)
	checkNoBytes(t, "nothing", []byte{})
	for _, x := range samples() {
		b := bytesOf(x)
		for i := range b {
			checkNoBytes(t, "cut off", b[:i])
			checkNoBytes(t, "cut off, with a capacity", append(make([]byte, 0, 500), b[:i]...))
			checkNoBytes(t, "an end", b[i+1:])
			checkParse(t, "without a byte", slices.Delete(bytes.Clone(b), i, i+1))
		}
		for c := range 256 {
			checkNoBytes(t, "with one byte more", append(bytes.Clone(b), byte(c)))
			for i := range b {
				checkParse(t, "with one byte more inside", slices.Insert(bytes.Clone(b), i, byte(c)))
			}
		}
		for _, n := range []int{2, 8, 16, 32, 1000} {
			checkNoBytes(t, "with more bytes", append(bytes.Clone(b), make([]byte, n)...))
		}
		checkNoBytes(t, "twice", slices.Concat(b, b))
	}
}

// TestParseKind: P12.2 and P12.4; each first byte.
func TestParseKind(t *testing.T) {
	for _, x := range samples() {
		b := bytesOf(x)
		for c := range 256 {
			b[0] = byte(c)
			if c != 1 {
				checkNoBytes(t, "another first byte", b)
			}
			checkNoBytes(t, "a first byte more", append([]byte{byte(c)}, bytesOf(x)...))
			checkNoBytes(t, "a first byte alone", b[:1])
		}
	}
}

// TestParseNumbers: P12.2 and P12.4; all pairs of numbers of 8 bytes, also of those with the highest bit set.
func TestParseNumbers(t *testing.T) {
	n := client("R", "alice")
	var numbers []uint64
	for _, time := range edges {
		numbers = append(numbers, uint64(time))
	}
	for bit := range 64 {
		numbers = append(numbers, 1<<bit, 1<<bit|1, 1<<63|1<<bit)
	}
	for _, start := range numbers {
		for _, end := range numbers {
			b := written(1, n, start, end, key[:])
			checkParse(t, "numbers", b)
			if got, ok := ticket.Parse(b); ok != (start <= end && end <= latest) || ok && (got.Start != int64(start) || got.End != int64(end)) {
				t.Errorf("the numbers %#x and %#x are read as %v, %v", start, end, got, ok)
			}
		}
		for _, other := range []uint64{0, 5, latest} {
			if start > latest {
				checkNoBytes(t, "a Start that is too great", written(1, n, start, other, key[:]))
				checkNoBytes(t, "an End that is too great", written(1, n, other, start, key[:]))
				checkNoBytes(t, "times that are too great", written(1, n, start, start, key[:]))
			}
		}
	}
}

// TestParseClients: P12.2 and P12.4; bytes with a client that is none.
func TestParseClients(t *testing.T) {
	for _, n := range others() {
		checkNoBytes(t, "no name", written(1, n, 5, 6, key[:]))
		checkNoBytes(t, "no name", written(1, n, 0, 0, make([]byte, 16)))
	}
	checkNoBytes(t, "no client", append([]byte{1}, make([]byte, 32)...))
	for count := range 256 {
		for _, there := range []int{0, 1, 2, 7, 8, 9, 10, 255} {
			b := written(1, client("R", several(there)...), 5, 6, key[:])
			b[3] = byte(count)
			checkParse(t, "another number of parts", b)
			if _, ok := ticket.Parse(b); ok != (1 <= there && there <= 8 && count == there) {
				t.Errorf("%d of %d parts are read: %v", count, there, ok)
			}
		}
	}
}

// TestParseKeys: P12.2; keys with fewer and with more bytes.
func TestParseKeys(t *testing.T) {
	for n := range 40 {
		b := written(1, client("R", "alice"), 5, 6, bytes.Repeat([]byte{7}, n))
		if n != 16 {
			checkNoBytes(t, "a key of another length", b)
		}
		checkParse(t, "a key of any length", b)
	}
}

// TestParseChanged: P12.2 and P12.5; each byte changed to each other one, which gives no bytes, or those of another ticket.
func TestParseChanged(t *testing.T) {
	for _, x := range samples() {
		b := bytesOf(x)
		for i := range b {
			for change := 1; change < 256; change++ {
				changed := bytes.Clone(b)
				changed[i] ^= byte(change)
				checkParse(t, "one byte changed", changed)
				got, ok := ticket.Parse(changed)
				if ok && ticket.Same(got, x) {
					t.Errorf("%x and %x are read as the same ticket", b, changed)
				}
				if back, _ := ticket.Bytes(got); ok && !bytes.Equal(back, changed) {
					t.Errorf("%x is read as %v, whose bytes are %x", changed, got, back)
				}
			}
		}
	}
}

// TestBytesDiffer: P12.2 and P12.3; different tickets have different bytes and sealed tickets.
func TestBytesDiffer(t *testing.T) {
	found := map[string]api.Ticket{}
	for _, x := range variants(from(client("R", "a", "b"), 10, 20)) {
		b, ok := ticket.Bytes(x)
		s, sealed := ticket.Seal(key, nonce, x)
		if ok != sealed {
			t.Errorf("%v has bytes: %v, but is sealed: %v", x, ok, sealed)
		}
		for _, y := range [][]byte{b, s} {
			if other, seen := found[string(y)]; seen && ok {
				t.Errorf("%v and %v have %x", other, x, y)
			}
			found[string(y)] = x
		}
	}
}

// TestOtherKey: P12.4; a key of which one bit differs opens nothing.
func TestOtherKey(t *testing.T) {
	for _, x := range samples() {
		s, _ := ticket.Seal(key, nonce, x)
		checkOpen(t, key, s, x)
		for bit := range 128 {
			changed := key
			changed[bit/8] ^= 1 << (bit % 8)
			checkShut(t, "another key", changed, s, api.BadIntegrity)
		}
		checkShut(t, "no key", [16]byte{}, s, api.BadIntegrity)
		checkShut(t, "the key of the ticket", x.Key, s, api.BadIntegrity)
	}
}

// TestAnyNonce: P12.3 and P12.4; each nonce gives another sealed ticket, and all of them are opened.
func TestAnyNonce(t *testing.T) {
	x := during(258, latest)
	seen := map[string]bool{}
	nonces := [][8]byte{{}, nonce}
	for bit := range 64 {
		changed := nonce
		changed[bit/8] ^= 1 << (bit % 8)
		nonces = append(nonces, changed)
	}
	for _, other := range nonces {
		s, ok := ticket.Seal(key, other, x)
		if !ok || !bytes.Equal(s, seal.Seal(key, usage, other, bytesOf(x))) || seen[string(s)] {
			t.Errorf("Seal(%x, %x, %v) returns %x, %v", key, other, x, s, ok)
		}
		seen[string(s)] = true
		checkOpen(t, key, s, x)
		if other != nonce {
			copy(s, nonce[:])
			checkShut(t, "another nonce", key, s, api.BadIntegrity)
		}
	}
}

// TestOpenChanged: P12.4; each byte of a sealed ticket changed.
func TestOpenChanged(t *testing.T) {
	for _, x := range samples() {
		s, _ := ticket.Seal(key, nonce, x)
		for bit := range 8 * len(s) {
			changed := bytes.Clone(s)
			changed[bit/8] ^= 1 << (bit % 8)
			checkShut(t, "one bit changed", key, changed, api.BadIntegrity)
		}
		for i := range s {
			changed := bytes.Clone(s)
			changed[i] ^= 0xff
			checkShut(t, "one byte changed", key, changed, api.BadIntegrity)
		}
	}
}

// TestOpenCut: P12.4; a sealed ticket that is cut off at each place, with more bytes, and strings that are shorter than a sealed one may be.
func TestOpenCut(t *testing.T) {
	for _, x := range samples() {
		s, _ := ticket.Seal(key, nonce, x)
		for i := range s {
			checkShut(t, "cut off", key, s[:i], api.BadIntegrity)
			checkShut(t, "an end", key, s[i+1:], api.BadIntegrity)
			checkShut(t, "without a byte", key, slices.Delete(bytes.Clone(s), i, i+1), api.BadIntegrity)
			checkShut(t, "with a byte more", key, slices.Insert(bytes.Clone(s), i, 1), api.BadIntegrity)
		}
		checkShut(t, "with a byte more", key, append(bytes.Clone(s), 0), api.BadIntegrity)
		checkShut(t, "twice", key, slices.Concat(s, s), api.BadIntegrity)
		checkShut(t, "bytes that are not sealed", key, bytesOf(x), api.BadIntegrity)
	}
	checkShut(t, "nil", key, nil, api.BadIntegrity)
	for n := range 2 * overhead {
		checkShut(t, "zeros", key, make([]byte, n), api.BadIntegrity)
		checkShut(t, "no sealed string", key, bytes.Repeat([]byte{0xa5}, n), api.BadIntegrity)
	}
}

// TestOpenUsage: P12.3 and P12.4; what was sealed for another usage is not opened, whether it is a ticket or not.
func TestOpenUsage(t *testing.T) {
	x := during(258, latest)
	for i := range 256 {
		if i != usage {
			checkShut(t, "another usage", key, seal.Seal(key, byte(i), nonce, bytesOf(x)), api.BadIntegrity)
			checkShut(t, "another usage, and no ticket", key, seal.Seal(key, byte(i), nonce, bytesOf(during(2, 1))), api.BadIntegrity)
			checkShut(t, "another usage, and no bytes", key, seal.Seal(key, byte(i), nonce, nil), api.BadIntegrity)
		}
	}
	checkOpen(t, key, seal.Seal(key, usage, nonce, bytesOf(x)), x)
	s, _ := ticket.Seal(key, nonce, x)
	for i := range 256 {
		if b, ok := seal.Open(key, byte(i), s); ok != (i == usage) || ok && !bytes.Equal(b, bytesOf(x)) {
			t.Errorf("a sealed ticket is opened for the usage %d: %x, %v", i, b, ok)
		}
	}
}

// TestOpenNoTicket: P12.4; sealed strings of other bytes, of which a change is found first.
func TestOpenNoTicket(t *testing.T) {
	good, _ := ticket.Seal(key, nonce, during(1, 2))
	for _, b := range [][]byte{nil, {}, {0}, {1}, {2}, make([]byte, 42), bytes.Repeat([]byte{1}, 42), []byte("alice@R"), clientOf(client("R", "p")), good, bytesOf(during(2, 1)), bytesOf(during(-1, 1)), bytesOf(during(0, latest+1)), bytesOf(from(client("R"), 1, 2))} {
		checkNoBytes(t, "sealed bytes of no ticket", b)
		s := seal.Seal(key, usage, nonce, b)
		changed := bytes.Clone(s)
		changed[len(s)-1] ^= 1
		checkShut(t, "a change, and no ticket", key, changed, api.BadIntegrity)
		checkShut(t, "another key, and no ticket", [16]byte{}, s, api.BadIntegrity)
	}
}

// TestLong: P12.2 and P12.4; as many bytes as may be sealed, of which the first ones are those of a ticket.
func TestLong(t *testing.T) {
	b := append(bytesOf(during(1, 2)), make([]byte, maxSealed)...)[:maxSealed]
	if got, ok := ticket.Parse(b); ok || !isZero(got) {
		t.Errorf("Parse of %d bytes returns %v, %v", len(b), got, ok)
	}
	s := seal.Seal(key, usage, nonce, b)
	if got, code := ticket.Open(key, s); code != api.Malformed || !isZero(got) {
		t.Errorf("Open of %d bytes returns %v, %v", len(s), got, code)
	}
	s[maxSealed/2]++
	if got, code := ticket.Open(key, s); code != api.BadIntegrity || !isZero(got) {
		t.Errorf("Open of %d bytes, one of them changed, returns %v, %v", len(s), got, code)
	}
}

// random returns a ticket.
func random(source *rand.Rand) api.Ticket {
	word := func() string {
		b := make([]byte, 1+source.Intn(1+source.Intn(100)))
		for i := range b {
			b[i] = byte(33 + source.Intn(94))
		}
		return string(b)
	}
	x := api.Ticket{Client: client(word())}
	for range 1 + source.Intn(8) {
		x.Client.Parts = append(x.Client.Parts, word())
	}
	x.End = source.Int63n(latest+1) >> source.Intn(41)
	x.Start = source.Int63n(x.End + 1)
	source.Read(x.Key[:])
	return x
}

// TestRandom: P12.1 to P12.5; tickets of many kinds, with keys and nonces of many kinds, and their bytes with a change.
func TestRandom(t *testing.T) {
	source := rand.New(rand.NewSource(12))
	for range 500 {
		x := random(source)
		checkTicket(t, x)
		var key [16]byte
		var nonce [8]byte
		source.Read(key[:])
		source.Read(nonce[:])
		b := bytesOf(x)
		s, ok := ticket.Seal(key, nonce, x)
		if !bytes.Equal(s, seal.Seal(key, usage, nonce, b)) || !ok {
			t.Errorf("Seal(%x, %x, %v) returns %x, %v", key, nonce, x, s, ok)
		}
		checkOpen(t, key, s, x)
		for range 20 {
			i, c := source.Intn(len(b)), byte(source.Intn(256))
			checkParse(t, "a byte changed", slices.Concat(b[:i], []byte{c}, b[i+1:]))
			checkParse(t, "a byte more", slices.Insert(bytes.Clone(b), i, c))
			checkParse(t, "a byte less", slices.Delete(bytes.Clone(b), i, i+1))
			checkParse(t, "random bytes behind the first ones", append(b[:i:i], s[:source.Intn(len(s))]...))
		}
	}
}

// TestArgumentsStay: rule 5; parts, bytes and the unused capacity behind them stay as they are.
func TestArgumentsStay(t *testing.T) {
	words := []string{"host", "a/b", `\@`, "", "a b", long(101), "é", "x", "y", "z", "end"}
	for n := range words {
		all := slices.Clone(words)
		a, b := from(client("R@", all[:n]...), 1, 2), from(client("R@", slices.Clone(all[:n])...), 1, 2)
		ticket.Valid(a)
		ticket.Bytes(a)
		ticket.Seal(key, nonce, a)
		ticket.Same(a, b)
		ticket.Same(b, a)
		ticket.Same(a, api.Ticket{})
		if !slices.Equal(all, words) || !same(a, from(client("R@", words[:n]...), 1, 2)) || !same(a, b) {
			t.Errorf("a value with %d parts was changed: %q", n, all)
		}
	}
	for _, x := range samples() {
		b := bytesOf(x)
		for _, whole := range [][]byte{b, seal.Seal(key, usage, nonce, b), seal.Seal(key, usage, nonce, b[1:])} {
			all := append(bytes.Clone(whole), b...)
			ticket.Parse(all[:len(whole)])
			ticket.Open(key, all[:len(whole)])
			ticket.Open([16]byte{}, all[:len(whole)])
			if !bytes.Equal(all, append(bytes.Clone(whole), b...)) {
				t.Errorf("%d bytes or those behind them were changed", len(whole))
			}
		}
	}
}

// TestTicketsAreNew: rule 5; a change of a ticket that Parse or Open returned changes neither another one nor an argument, and a change of the argument no ticket.
func TestTicketsAreNew(t *testing.T) {
	for _, x := range samples() {
		b := bytesOf(x)
		s := seal.Seal(key, usage, nonce, b)
		var l []api.Ticket
		for range 3 {
			parsed, _ := ticket.Parse(b)
			opened, _ := ticket.Open(key, s)
			l = append(l, parsed, opened)
		}
		if !bytes.Equal(b, bytesOf(x)) || !bytes.Equal(s, seal.Seal(key, usage, nonce, b)) {
			t.Errorf("arguments were changed: %x, %x", b, s)
		}
		clear(b)
		clear(s)
		for _, got := range l {
			if !same(got, x) {
				t.Errorf("a result was changed from %v to %v", x, got)
			}
			parts := got.Client.Parts
			for i := range parts[:cap(parts)] {
				parts[:cap(parts)][i] = "spoilt"
			}
		}
		checkTicket(t, x)
	}
}

// TestBytesAreNew: rule 5; a change of what Bytes or Seal returned changes neither another result nor an argument, and a change of the argument no result.
func TestBytesAreNew(t *testing.T) {
	for _, x := range samples() {
		want := bytesOf(x)
		argument := x
		argument.Client.Parts = slices.Clone(x.Client.Parts)
		var l, sealed [][]byte
		for range 3 {
			b, _ := ticket.Bytes(argument)
			s, _ := ticket.Seal(key, nonce, argument)
			l, sealed = append(l, b), append(sealed, s)
		}
		clear(argument.Client.Parts)
		for i := range l {
			if !bytes.Equal(l[i], want) || !bytes.Equal(sealed[i], seal.Seal(key, usage, nonce, want)) {
				t.Errorf("a result was changed to %x, or to %x", l[i], sealed[i])
			}
			clear(l[i][:cap(l[i])])
			clear(sealed[i][:cap(sealed[i])])
		}
		checkTicket(t, x)
	}
}

// TestAgain: rules 7 and 8; nothing is left of earlier calls, and calls at the same time do not meet.
func TestAgain(t *testing.T) {
	shared := from(client("R@", "host", "a/b", `\`), 5, 6)
	var group sync.WaitGroup
	for i := range 8 {
		group.Go(func() {
			source := rand.New(rand.NewSource(int64(i)))
			for range 30 {
				checkTicket(t, random(source))
				checkTicket(t, shared)
				checkOther(t, during(6, 5))
				checkShut(t, "beside other calls", [16]byte{byte(i)}, seal.Seal(key, usage, nonce, bytesOf(shared)), api.BadIntegrity)
			}
		})
	}
	group.Wait()
}
