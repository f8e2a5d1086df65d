package aes_test

import (
	"encoding/hex"
	"math/rand"
	"sync"
	"testing"

	"toll/aes"
)

// block is a block, and a key has as many bytes.
type block = [16]byte

// The blocks and keys of FIPS 197, appendices B and C.1.
const (
	exampleKey   = "2b7e151628aed2a6abf7158809cf4f3c"
	exampleBlock = "3243f6a8885a308d313198a2e0370734"
	vectorKey    = "000102030405060708090a0b0c0d0e0f"
	vectorBlock  = "00112233445566778899aabbccddeeff"
)

// known are keys, blocks and their encryptions: of FIPS 197, of SP 800-38A (F.1.1), and what OpenSSL makes of zero bytes, of equal bytes, of a single bit, and of random bytes.
var known = []struct{ key, block, want string }{
	{vectorKey, vectorBlock, "69c4e0d86a7b0430d8cdb78070b4c55a"},
	{exampleKey, exampleBlock, "3925841d02dc09fbdc118597196a0b32"},
	{exampleKey, "6bc1bee22e409f96e93d7e117393172a", "3ad77bb40d7a3660a89ecaf32466ef97"},
	{exampleKey, "ae2d8a571e03ac9c9eb76fac45af8e51", "f5d3d58503b9699de785895a96fdbaaf"},
	{exampleKey, "30c81c46a35ce411e5fbc1191a0a52ef", "43b1cd7f598ece23881b00e3ed030688"},
	{exampleKey, "f69f2445df4f9b17ad2b417be66c3710", "7b0c785e27e8ad3f8223207104725dd4"},
	{"00000000000000000000000000000000", "00000000000000000000000000000000", "66e94bd4ef8a2c3b884cfa59ca342b2e"},
	{"00000000000000000000000000000000", "01010101010101010101010101010101", "e14d5d0ee27715df08b4152ba23da8e0"},
	{"01010101010101010101010101010101", "00000000000000000000000000000000", "b6aeaffa752dc08b51639731761aed00"},
	{"01010101010101010101010101010101", "01010101010101010101010101010101", "5e77e59f8f85943489a24149c75f4ec9"},
	{"00000000000000000000000000000000", "63636363636363636363636363636363", "9d9a5cf8e4f0d187d305de9de48aaa35"},
	{"63636363636363636363636363636363", "00000000000000000000000000000000", "6f02169561ce5ab1142ac0fa5992fd01"},
	{"63636363636363636363636363636363", "63636363636363636363636363636363", "af88c578156a507fcb6227f633e8b288"},
	{"00000000000000000000000000000000", "80808080808080808080808080808080", "356597dcce869537ab2d0ca4ba1d6c75"},
	{"80808080808080808080808080808080", "00000000000000000000000000000000", "fde28a53c02934bc4b5283f6bb27ab83"},
	{"80808080808080808080808080808080", "80808080808080808080808080808080", "e7f10b4318bfde234b07329dbd798685"},
	{"00000000000000000000000000000000", "ffffffffffffffffffffffffffffffff", "3f5b8cc9ea855a0afa7347d23e8d664e"},
	{"ffffffffffffffffffffffffffffffff", "00000000000000000000000000000000", "a1f6258c877d5fcd8964484538bfc92c"},
	{"ffffffffffffffffffffffffffffffff", "ffffffffffffffffffffffffffffffff", "bcbf217cb280cf30b2517052193ab979"},
	{"00000000000000000000000000000000", "80000000000000000000000000000000", "3ad78e726c1ec02b7ebfe92b23d9ec34"},
	{"00000000000000000000000000000000", "00000000000000000000000000000001", "58e2fccefa7e3061367f1d57a4e7455a"},
	{"80000000000000000000000000000000", "00000000000000000000000000000000", "0edd33d3c621e546455bd8ba1418bec8"},
	{"00000000000000000000000000000001", "00000000000000000000000000000000", "0545aad56da2a97c3663d1432a3d1c84"},
	{"38b4e652e44da7f2370d9e260e271365", "50a4a3a6d07f5c0c332f8b1224083fd2", "2a1526a93654497163eacbd8f2f0f4ba"},
	{"2b902f8911e81818f8c99d5d5d983195", "7504d90e945de2e8f54ee781cc75f636", "f79a52bf2330c781f902a02e8f4f690d"},
	{"d85099095aa300165a67036f9b540d6b", "8f0be21124179c3dd9f73817ce6e118d", "e32fd7515c1aa8d69cb4a020307914f0"},
	{"264aad6cb6dd210faf94acd3cf92c190", "237cb11f5d108cf25930263938b370a1", "8781a68284bb0f6f698db55868121471"},
}

// expanded are the 44 columns of the round keys of exampleKey: FIPS 197, appendix A.1.
var expanded = [11]string{
	exampleKey,
	"a0fafe1788542cb123a339392a6c7605",
	"f2c295f27a96b9435935807a7359f67f",
	"3d80477d4716fe3e1e237e446d7a883b",
	"ef44a541a8525b7fb671253bdb0bad00",
	"d4d1c6f87c839d87caf2b8bc11f915bc",
	"6d88a37a110b3efddbf98641ca0093fd",
	"4e54f70e5f5fc9f384a64fb24ea6dc4f",
	"ead27321b58dbad2312bf5607f8d292f",
	"ac7766f319fadc2128d12941575c006e",
	"d014f9a8c9ee2589e13f0cc8b6630ca6",
}

// started are the blocks at the start of each round of vectorBlock under vectorKey, and the encryption: FIPS 197, appendix C.1.
var started = [11]string{
	"00102030405060708090a0b0c0d0e0f0",
	"89d810e8855ace682d1843d8cb128fe4",
	"4915598f55e5d7a0daca94fa1f0a63f7",
	"fa636a2825b339c940668a3157244d17",
	"247240236966b3fa6ed2753288425b6c",
	"c81677bc9b7ac93b25027992b0261996",
	"c62fe109f75eedc3cc79395d84f9cf5d",
	"d1876c0f79c4300ab45594add66ff41f",
	"fde3bad205e5d0d73547964ef1fe37f1",
	"bd6e7c3df2b5779e0b61216e8b10b689",
	"69c4e0d86a7b0430d8cdb78070b4c55a",
}

// substitutions are found by looking at all products, without package field.
var substitutions = func() (all [256]byte) {
	for a := range 256 {
		inverse := 0
		for b := range 256 {
			if productOf(byte(a), byte(b)) == 1 {
				inverse = b
			}
		}
		all[a] = 0x63
		for shift := range 5 {
			all[a] ^= byte(inverse<<shift) | byte(inverse>>(8-shift))
		}
	}
	return all
}()

// productOf returns a product in the field, by the division of polynomials.
func productOf(a, b byte) byte {
	p := 0
	for k := range 8 {
		p ^= int(a) << k * int(b>>k&1)
	}
	for k := 14; k >= 8; k-- {
		if p>>k&1 == 1 {
			p ^= 0x11b << (k - 8)
		}
	}
	return byte(p)
}

// columnsOf returns the 44 columns of the round keys in a way of its own: each from the two that the chapter names.
func columnsOf(key block) (all [44][4]byte) {
	power := byte(1)
	for i := range all {
		if i < 4 {
			all[i] = [4]byte(key[4*i:])
			continue
		}
		t := all[i-1]
		if i%4 == 0 {
			t = [4]byte{substitutions[t[1]] ^ power, substitutions[t[2]], substitutions[t[3]], substitutions[t[0]]}
			power = productOf(power, 2)
		}
		for r := range t {
			all[i][r] = all[i-4][r] ^ t[r]
		}
	}
	return all
}

// roundOf returns the block after a round in a way of its own: by rows and columns.
func roundOf(b, key block, last bool) (next block) {
	var rows, mixed [4][4]byte
	for r := range 4 {
		for c := range 4 {
			rows[r][c] = substitutions[b[r+4*((c+r)%4)]]
		}
	}
	for r := range 4 {
		for c := range 4 {
			mixed[r][c] = productOf(2, rows[r][c]) ^ productOf(3, rows[(r+1)%4][c]) ^ rows[(r+2)%4][c] ^ rows[(r+3)%4][c]
			if last {
				mixed[r][c] = rows[r][c]
			}
			next[r+4*c] = mixed[r][c] ^ key[r+4*c]
		}
	}
	return next
}

// encryptionOf returns an encryption in a way of its own.
func encryptionOf(key, b block) block {
	columns := columnsOf(key)
	for i := range b {
		b[i] ^= columns[i/4][i%4]
	}
	for n := 1; n <= 10; n++ {
		var roundKey block
		for i := range roundKey {
			roundKey[i] = columns[4*n+i/4][i%4]
		}
		b = roundOf(b, roundKey, n == 10)
	}
	return b
}

// parse returns the block that is written in hexadecimal.
func parse(t *testing.T, s string) block {
	t.Helper()
	b, err := hex.DecodeString(s)
	if err != nil || len(b) != 16 {
		t.Fatalf("%s is no block", s)
	}
	return block(b)
}

// equal returns a block of equal bytes.
func equal(x int) (b block) {
	for i := range b {
		b[i] = byte(x)
	}
	return b
}

// single returns a block of zero bytes but for one bit.
func single(bit int) (b block) {
	b[bit/8] = 1 << (bit % 8)
	return b
}

// someBlock returns a random block.
func someBlock(source *rand.Rand) (b block) {
	source.Read(b[:])
	return b
}

// checkCipher checks an encryption, and the decryption of it.
func checkCipher(t *testing.T, key, b, want block) {
	t.Helper()
	if got := aes.Encrypt(key, b); got != want {
		t.Errorf("Encrypt(%x, %x) returns %x, not %x", key, b, got, want)
	}
	if got := aes.Decrypt(key, want); got != b {
		t.Errorf("Decrypt(%x, %x) returns %x, not %x", key, want, got, b)
	}
}

// checkKeys checks the round keys of a key, column by column.
func checkKeys(t *testing.T, key block) {
	t.Helper()
	got := aes.Keys(key)
	for i, want := range columnsOf(key) {
		if column := [4]byte(got[i/4][4*(i%4):]); column != want {
			t.Errorf("the column %d of Keys(%x) is %x, not %x", i, key, column, want)
		}
	}
}

// checkRound checks both kinds of rounds.
func checkRound(t *testing.T, b, key block) {
	t.Helper()
	for _, last := range []bool{false, true} {
		if got, want := aes.Round(b, key, last), roundOf(b, key, last); got != want {
			t.Errorf("Round(%x, %x, %t) returns %x, not %x", b, key, last, got, want)
		}
	}
}

// checkInvert checks that Decrypt and Encrypt invert each other.
func checkInvert(t *testing.T, key, b block) {
	t.Helper()
	if got := aes.Decrypt(key, aes.Encrypt(key, b)); got != b {
		t.Errorf("under %x, the decryption of the encryption of %x is %x", key, b, got)
	}
	if got := aes.Encrypt(key, aes.Decrypt(key, b)); got != b {
		t.Errorf("under %x, the encryption of the decryption of %x is %x", key, b, got)
	}
}

// checkXor checks the exclusive or of two blocks, in both orders.
func checkXor(t *testing.T, a, b, want block) {
	t.Helper()
	if got := aes.Xor(a, b); got != want {
		t.Errorf("Xor(%x, %x) returns %x, not %x", a, b, got, want)
	}
	if got := aes.Xor(b, a); got != want {
		t.Errorf("Xor(%x, %x) returns %x, not %x", b, a, got, want)
	}
}

// TestExample: P7.1; the example of the chapter.
func TestExample(t *testing.T) {
	var key, b block
	for i := range b {
		key[i], b[i] = byte(i), byte(0x11*i)
	}
	if got := aes.Encrypt(key, b); got[0] != 0x69 || got[1] != 0xc4 || got[2] != 0xe0 {
		t.Errorf("the encryption of the example is %x", got)
	}
}

// TestKnown: P7.1; encryptions of the standards and of another program.
func TestKnown(t *testing.T) {
	for _, x := range known {
		key, b, want := parse(t, x.key), parse(t, x.block), parse(t, x.want)
		checkCipher(t, key, b, want)
		if got := encryptionOf(key, b); got != want {
			t.Errorf("the encryption of the test itself of %x under %x is %x, not %x", b, key, got, want)
		}
	}
}

// TestChain: P7.1; a thousand encryptions, each with the key and the block that the last one made. OpenSSL ends with the same.
func TestChain(t *testing.T) {
	var key, b block
	for range 1000 {
		b = aes.Encrypt(key, b)
		key = aes.Xor(key, b)
	}
	if want := parse(t, "4b92dc39ef6301485a9a5de71f9f622e"); key != want {
		t.Errorf("the last key is %x, not %x", key, want)
	}
	if want := parse(t, "c03b462451b8ec9fa674a2d1e9c0555e"); b != want {
		t.Errorf("the last block is %x, not %x", b, want)
	}
	for range 1000 {
		key = aes.Xor(key, b)
		b = aes.Decrypt(key, b)
	}
	if key != (block{}) || b != (block{}) {
		t.Errorf("the decryptions end with %x and %x", key, b)
	}
}

// TestCipher: P7.1; random keys and blocks, each byte of them, and equal bytes.
func TestCipher(t *testing.T) {
	source := rand.New(rand.NewSource(1))
	for range 500 {
		key, b := someBlock(source), someBlock(source)
		checkCipher(t, key, b, encryptionOf(key, b))
		checkCipher(t, key, key, encryptionOf(key, key))
	}
	for i := range 128 {
		checkCipher(t, single(i), block{}, encryptionOf(single(i), block{}))
		checkCipher(t, block{}, single(i), encryptionOf(block{}, single(i)))
	}
	for x := range 256 {
		checkCipher(t, equal(x), block{}, encryptionOf(equal(x), block{}))
		checkCipher(t, block{}, equal(x), encryptionOf(block{}, equal(x)))
		checkCipher(t, equal(x), equal(255-x), encryptionOf(equal(x), equal(255-x)))
	}
}

// TestExpanded: P7.1; all round keys of FIPS 197.
func TestExpanded(t *testing.T) {
	keys := aes.Keys(parse(t, exampleKey))
	for i, want := range expanded {
		if keys[i] != parse(t, want) {
			t.Errorf("the round key %d is %x, not %s", i, keys[i], want)
		}
	}
	if got, want := aes.Keys(parse(t, vectorKey))[10], parse(t, "13111d7fe3944a17f307a78b4d2b30c5"); got != want {
		t.Errorf("the last round key is %x, not %x", got, want)
	}
}

// TestKeys: P7.1; the columns of all round keys, of zero bytes, equal bytes, single bits and random bytes.
func TestKeys(t *testing.T) {
	source := rand.New(rand.NewSource(2))
	for range 500 {
		checkKeys(t, someBlock(source))
	}
	for x := range 256 {
		checkKeys(t, equal(x))
	}
	for i := range 128 {
		checkKeys(t, single(i))
	}
}

// TestPowers: P7.1; the powers of 2 are all that differs between a column whose number is a multiple of 4 and what the two columns before give it.
func TestPowers(t *testing.T) {
	powers := [11]byte{0, 0x01, 0x02, 0x04, 0x08, 0x10, 0x20, 0x40, 0x80, 0x1b, 0x36}
	keys := aes.Keys(parse(t, vectorKey))
	for i := 1; i < len(keys); i++ {
		last, key := keys[i-1], keys[i]
		want := [4]byte{powers[i]}
		for r := range want {
			if got := key[r] ^ last[r] ^ substitutions[last[12+(r+1)%4]]; got != want[r] {
				t.Errorf("in the row %d of the round key %d is %#x instead of %#x", r, i, got, want[r])
			}
		}
		for j := 4; j < 16; j++ {
			if key[j] != last[j]^key[j-4] {
				t.Errorf("the byte %d of the round key %d is %#x", j, i, key[j])
			}
		}
	}
}

// TestStarted: P7.2; the rounds of FIPS 197 one by one, of which only the last one does not mix columns.
func TestStarted(t *testing.T) {
	keys := aes.Keys(parse(t, vectorKey))
	checkXor(t, parse(t, vectorBlock), keys[0], parse(t, started[0]))
	for i := 1; i <= 10; i++ {
		before, want := parse(t, started[i-1]), parse(t, started[i])
		if got := aes.Round(before, keys[i], i == 10); got != want {
			t.Errorf("the round %d makes %x of %x, not %x", i, got, before, want)
		}
		if got := roundOf(before, keys[i], i == 10); got != want {
			t.Errorf("the round %d of the test itself makes %x of %x, not %x", i, got, before, want)
		}
		if got := aes.Round(before, keys[i], i != 10); got == want {
			t.Errorf("the round %d is the same whether it is the last one or not", i)
		}
	}
}

// TestRound: P7.2; both kinds of rounds, with any key.
func TestRound(t *testing.T) {
	source := rand.New(rand.NewSource(3))
	for range 2000 {
		checkRound(t, someBlock(source), someBlock(source))
	}
	for x := range 256 {
		checkRound(t, equal(x), block{})
		checkRound(t, equal(x), equal(x))
		checkRound(t, block{}, equal(x))
	}
}

// TestRoundPlaces: P7.2; a byte changes one byte of the last round, in the column to which its row is moved, and that column of another round.
func TestRoundPlaces(t *testing.T) {
	for i := range 16 {
		r, c := i%4, (i/4-i%4+4)%4
		var b block
		b[i] = 0x52 // the substitution of 0x52 is 0
		last, other := aes.Round(b, block{}, true), aes.Round(b, block{}, false)
		for j := range 16 {
			if changed := last[j] != 0x63; changed != (j == r+4*c) {
				t.Errorf("the byte %d makes the byte %d of the last round %#x", i, j, last[j])
			}
			if changed := other[j] != 0x63; changed != (j/4 == c) {
				t.Errorf("the byte %d makes the byte %d of a round %#x", i, j, other[j])
			}
		}
	}
}

// TestRoundKnown: P7.2; a round of zero bytes, and the columns that FIPS 197 and others mix.
func TestRoundKnown(t *testing.T) {
	for _, last := range []bool{false, true} {
		if got := aes.Round(block{}, block{}, last); got != equal(0x63) {
			t.Errorf("a round of zero bytes makes %x", got)
		}
		if got := aes.Round(equal(0x52), equal(0x37), last); got != equal(0x37) {
			t.Errorf("a round whose substitutions are 0 makes %x of its key", got)
		}
	}
	key := parse(t, expanded[1])
	b := aes.Xor(parse(t, exampleBlock), parse(t, exampleKey))
	if got, want := aes.Round(b, key, false), parse(t, "a49c7ff2689f352b6b5bea43026a5049"); got != want {
		t.Errorf("the first round is %x, not %x", got, want)
	}
	if got, want := aes.Round(b, block{}, false), parse(t, "046681e5e0cb199a48f8d37a2806264c"); got != want {
		t.Errorf("the mixed columns of the first round are %x, not %x", got, want)
	}
	if got, want := aes.Round(b, block{}, true), parse(t, "d4bf5d30e0b452aeb84111f11e2798e5"); got != want {
		t.Errorf("the moved rows of the first round are %x, not %x", got, want)
	}
}

// TestRounds: P7.1 and P7.2; an encryption is the exclusive or with a round key, and ten rounds with the others.
func TestRounds(t *testing.T) {
	source := rand.New(rand.NewSource(4))
	for range 300 {
		key, b := someBlock(source), someBlock(source)
		keys := aes.Keys(key)
		if keys[0] != key {
			t.Errorf("the round key 0 of %x is %x", key, keys[0])
		}
		x := aes.Xor(b, keys[0])
		for i := 1; i <= 10; i++ {
			x = aes.Round(x, keys[i], i == 10)
		}
		if got := aes.Encrypt(key, b); got != x {
			t.Errorf("Encrypt(%x, %x) returns %x, but the rounds make %x", key, b, got, x)
		}
	}
}

// TestXor: P7.2.
func TestXor(t *testing.T) {
	checkXor(t, parse(t, exampleKey), parse(t, exampleBlock), parse(t, "193de3bea0f4e22b9ac68d2ae9f84808"))
	source := rand.New(rand.NewSource(5))
	for range 500 {
		a, b := someBlock(source), someBlock(source)
		var want block
		for i := range want {
			want[i] = a[i] ^ b[i]
		}
		checkXor(t, a, b, want)
		checkXor(t, a, want, b)
		checkXor(t, a, a, block{})
		checkXor(t, a, block{}, a)
	}
	for i := range 128 {
		checkXor(t, single(i), block{}, single(i))
		checkXor(t, single(i), equal(255), aes.Xor(equal(255), single(i)))
		checkXor(t, single(i), single(i), block{})
	}
}

// TestInvert: P7.3; random keys and blocks, and those of zero bytes, equal bytes and single bits.
func TestInvert(t *testing.T) {
	source := rand.New(rand.NewSource(6))
	for range 500 {
		checkInvert(t, someBlock(source), someBlock(source))
	}
	for x := range 256 {
		checkInvert(t, equal(x), block{})
		checkInvert(t, block{}, equal(x))
		checkInvert(t, equal(x), equal(x))
	}
	for i := range 128 {
		checkInvert(t, single(i), block{})
		checkInvert(t, block{}, single(i))
		checkInvert(t, single(i), single(127-i))
	}
}

// TestArgumentsStay: rule 5; keys and blocks stay as they are, and so do results when others are changed.
func TestArgumentsStay(t *testing.T) {
	source := rand.New(rand.NewSource(7))
	key, b := someBlock(source), someBlock(source)
	oldKey, oldBlock := key, b
	aes.Xor(b, key)
	keys := aes.Keys(key)
	aes.Round(b, key, false)
	aes.Round(b, key, true)
	aes.Encrypt(key, b)
	aes.Decrypt(key, b)
	if key != oldKey || b != oldBlock {
		t.Errorf("the key and the block became %x and %x", key, b)
	}
	for i := range keys {
		keys[i] = block{}
	}
	if key != oldKey {
		t.Errorf("the key became %x with its round keys", key)
	}
	checkKeys(t, key)
}

// TestAgain: rules 7 and 8; nothing is left of earlier calls, and calls at the same time do not meet.
func TestAgain(t *testing.T) {
	var group sync.WaitGroup
	for i := range 8 {
		group.Go(func() {
			source := rand.New(rand.NewSource(int64(i)))
			for range 50 {
				key, b := someBlock(source), someBlock(source)
				checkCipher(t, key, b, encryptionOf(key, b))
				checkKeys(t, key)
				checkRound(t, b, key)
				checkXor(t, b, key, aes.Xor(b, key))
			}
		})
	}
	group.Wait()
}
