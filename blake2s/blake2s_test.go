package blake2s

import (
	"encoding/hex"
	"math"
	"math/rand/v2"
	"slices"
	"strconv"
	"strings"
	"testing"

	"stele/api"
)

// modulus is that of the other computation, whose words are wider than those of the package.
const modulus = 1 << 32

// otherInitial are the initial words, which are the first 32 bits of the fractional parts of the square roots of the first primes.
func otherInitial() []uint64 {
	var l []uint64
	for _, prime := range []float64{2, 3, 5, 7, 11, 13, 17, 19} {
		root := math.Sqrt(prime)
		l = append(l, uint64((root-math.Floor(root))*modulus))
	}
	return l
}

// otherPermutations are the permutations in hexadecimal, as the designers of BLAKE2 tabulate them.
var otherPermutations = []string{
	"0123456789abcdef", "ea489fd61c02b753", "b8c052fdae367194", "7931dcbe265a40f8", "905724afe1bc683d",
	"2c6a0b834d75fe19", "c51fed4a0763928b", "db7ec13950f4862a", "6fe9b308c2d714a5", "a2847615fb9e3cd0",
}

func otherRotate(word uint64, r int) uint64 {
	return word>>r + word<<(32-r)%modulus
}

// otherCompress computes the compression function with loops over columns, diagonals and the halves of a mixing.
func otherCompress(h [8]uint32, block string, count uint64, last bool) [8]uint32 {
	var v []uint64
	for _, word := range h {
		v = append(v, uint64(word))
	}
	v = append(v, otherInitial()...)
	v[12] ^= count % modulus
	v[13] ^= count / modulus
	if last {
		v[14] = modulus - 1 - v[14]
	}
	for _, p := range otherPermutations {
		for i := range 16 {
			index, _ := strconv.ParseUint(p[i:i+1], 16, 8)
			x := uint64(0)
			for at := 3; at >= 0; at-- {
				x = x*256 + uint64(block[int(index)*4+at])
			}
			mixing, half := i/2, i%2
			turn := mixing / 4
			a, b, c, d := mixing%4, 4+(mixing+turn)%4, 8+(mixing+2*turn)%4, 12+(mixing+3*turn)%4
			v[a] = (v[a] + v[b] + x) % modulus
			v[d] = otherRotate(v[d]^v[a], 16-8*half)
			v[c] = (v[c] + v[d]) % modulus
			v[b] = otherRotate(v[b]^v[c], 12-5*half)
		}
	}
	for i := range 8 {
		h[i] ^= uint32(v[i]) ^ uint32(v[i+8])
	}
	return h
}

// compression is the compression function or another way to compute it.
type compression func(h [8]uint32, block string, count uint64, last bool) [8]uint32

// chain computes the digest of RFC 7693, of any length and with any key, by a compression function.
func chain(compress compression, length int, key, message string) string {
	if key != "" {
		message = key + zeros(64-len(key)) + message
	}
	var h [8]uint32
	for i, word := range otherInitial() {
		h[i] = uint32(word)
	}
	h[0] ^= uint32(0x01010000 + 256*len(key) + length)
	blocks := max(1, (len(message)+63)/64)
	padded := message + zeros(blocks*64-len(message))
	for i := range blocks {
		h = compress(h, padded[64*i:64*i+64], uint64(min(64*i+64, len(message))), i == blocks-1)
	}
	var digest []byte
	for _, word := range h {
		digest = append(digest, byte(word), byte(word>>8), byte(word>>16), byte(word>>24))
	}
	return string(digest[:length])
}

func otherSum(message string) string {
	return chain(otherCompress, 32, "", message)
}

func zeros(n int) string {
	return strings.Repeat("\x00", n)
}

// counting returns n bytes that count up from 0, as in the test vectors of BLAKE2.
func counting(n int) string {
	b := make([]byte, n)
	for i := range b {
		b[i] = byte(i)
	}
	return string(b)
}

// random returns the same numbers in every run.
func random() *rand.Rand {
	return rand.New(rand.NewPCG(4, 7693))
}

func randomString(r *rand.Rand, length int) string {
	b := make([]byte, length)
	for i := range b {
		b[i] = byte(r.Uint32())
	}
	return string(b)
}

// edges are the lengths of messages around the ends of blocks, and others.
var edges = []int{0, 1, 2, 3, 31, 32, 33, 55, 56, 57, 62, 63, 64, 65, 66, 126, 127, 128, 129, 130, 191, 192, 193, 255, 256, 257, 1000}

// messages returns strings of many kinds and lengths.
func messages() []string {
	r := random()
	l := []string{"", "abc", "empty", "leaf", "node", "é", "日本語", "\xff\xfe", "\xed\xa0\x80", "\u0130\u0131", strings.Repeat("é", 64), strings.Repeat("日", 43)}
	for i := range 256 {
		l = append(l, string([]byte{byte(i)}))
	}
	for _, n := range edges {
		l = append(l, counting(n), zeros(n), strings.Repeat("\xff", n), randomString(r, n))
	}
	return append(l, randomString(r, 4096), randomString(r, 4097), randomString(r, 99999))
}

// shorten keeps reports readable.
func shorten(s string) string {
	if len(s) > 40 {
		return strconv.Quote(s[:40]) + ".. of " + strconv.Itoa(len(s)) + " bytes"
	}
	return strconv.Quote(s)
}

func check(t *testing.T, what, got, want string) {
	t.Helper()
	if got != want {
		t.Errorf("%s = %x, want %x", what, got, want)
	}
}

func checkHex(t *testing.T, what, got, want string) {
	t.Helper()
	if digits := hex.EncodeToString([]byte(got)); digits != want {
		t.Errorf("%s = %s, want %s", what, digits, want)
	}
}

// P4.1: Sum.

func TestSumExamples(t *testing.T) {
	checkHex(t, "Sum of abc", Sum("abc"), "508c5e8c327c14e2e1a72ba34eeb452f37458b209ed63a294d999b4c86675982")
	checkHex(t, "Sum of no argument", Sum(), "69217a3079908094e11121d042354a7c1f55b6482ca1a51e1b250dfd1ed0eef9")
	checkHex(t, "Sum of an empty list", Sum([]string{}...), "69217a3079908094e11121d042354a7c1f55b6482ca1a51e1b250dfd1ed0eef9")
	checkHex(t, "Sum of an empty argument", Sum(""), "69217a3079908094e11121d042354a7c1f55b6482ca1a51e1b250dfd1ed0eef9")
	checkHex(t, "Sum of empty arguments", Sum("", "", ""), "69217a3079908094e11121d042354a7c1f55b6482ca1a51e1b250dfd1ed0eef9")
	checkHex(t, "Sum of empty", Sum("empty"), "61fd5e5a95ac8beea99090ef47113e4e0ddb7e25be25fc31d5fbcd051c2ce196")
	checkHex(t, "Sum of the fox", Sum("The quick brown fox", " jumps over the lazy dog"), "606beeec743ccbeff6cbcdf5d5302aa855c256c29b88c8ed331ea1a6bf3c8812")
	checkHex(t, "Sum of a million letters", Sum(strings.Repeat("a", 1_000_000)), "bec0c0e6cde5b67acb73b81f79a67a4079ae1c60dac9d2661af18e9f8b50dfa5")
}

// The digests are those of another program, the BLAKE2s of Python's library.
func TestSumOfCountingBytes(t *testing.T) {
	for _, c := range []struct {
		length int
		want   string
	}{
		{0, "69217a3079908094e11121d042354a7c1f55b6482ca1a51e1b250dfd1ed0eef9"},
		{1, "e34d74dbaf4ff4c6abd871cc220451d2ea2648846c7757fbaac82fe51ad64bea"},
		{2, "ddad9ab15dac4549ba42f49d262496bef6c0bae1dd342a8808f8ea267c6e210c"},
		{3, "e8f91c6ef232a041452ab0e149070cdd7dd1769e75b3a5921be37876c45c9900"},
		{32, "05825607d7fdf2d82ef4c3c8c2aea961ad98d60edff7d018983e21204c0d93d1"},
		{63, "e57cb79487dd57902432b250733813bd96a84efce59f650fac26e6696aefafc3"},
		{64, "56f34e8b96557e90c1f24b52d0c89d51086acf1b00f634cf1dde9233b8eaaa3e"},
		{65, "1b53ee94aaf34e4b159d48de352c7f0661d0a40edff95a0b1639b4090e974472"},
		{127, "f18417b39d617ab1c18fdf91ebd0fc6d5516bb34cf39364037bce81fa04cecb1"},
		{128, "1fa877de67259d19863a2a34bcc6962a2b25fcbf5cbecd7ede8f1fa36688a796"},
		{129, "5bd169e67c82c2c2e98ef7008bdf261f2ddf30b1c00f9e7f275bb3e8a28dc9a2"},
		{192, "58d212ad6f58aef0f80116b441e57f6195bfef26b61463edec1183cdb04fe76d"},
		{255, "f03f5789d3336b80d002d59fdf918bdb775b00956ed5528e86aa994acb38fe2d"},
		{256, "5fdeb59f681d975f52c8e69c5502e02a12a3afcc5836ba58f42784c439228781"},
		{1000, "b5f9d7799111edafc9326fbf667be98140b5e20ce5e151793c59125bf654ac18"},
	} {
		checkHex(t, "Sum of "+strconv.Itoa(c.length)+" bytes", Sum(counting(c.length)), c.want)
	}
}

// The digest of all digests stands for those of every length up to 1024 bytes.
func TestSumOfEveryLength(t *testing.T) {
	var all []string
	for length := range 1025 {
		all = append(all, Sum(counting(length)))
	}
	checkHex(t, "Sum of all digests", Sum(all...), "90d20671c2c5243b78c9308fc0cfa37538cc943489221a210467b4040521d702")
}

func TestSumOfManyMessages(t *testing.T) {
	for _, s := range messages() {
		digest := Sum(s)
		if len(digest) != 32 {
			t.Errorf("Sum of %s has %d bytes", shorten(s), len(digest))
		}
		check(t, "Sum of "+shorten(s), digest, otherSum(s))
	}
}

func TestSumCountsZeroBytes(t *testing.T) {
	lengths := map[string]int{}
	for length := range 200 {
		digest := Sum(zeros(length))
		if other, known := lengths[digest]; known {
			t.Errorf("%d and %d zero bytes have the same digest", other, length)
		}
		lengths[digest] = length
	}
}

func TestSumDistinguishesEveryByte(t *testing.T) {
	for _, n := range []int{1, 63, 64, 65, 128, 129} {
		s := counting(n)
		for i := range n {
			b := []byte(s)
			b[i] ^= 0x80
			if Sum(string(b)) == Sum(s) {
				t.Errorf("byte %d of %d does not matter", i, n)
			}
		}
	}
}

// P4.2: Compress.

func callCompress(t *testing.T) compression {
	return func(h [8]uint32, block string, count uint64, last bool) [8]uint32 {
		t.Helper()
		state, e := Compress(h, block, count, last)
		if e != api.OK {
			t.Errorf("Compress of a block = error %d", e)
		}
		return state
	}
}

func checkCompress(t *testing.T, h [8]uint32, block string, count uint64, last bool) {
	t.Helper()
	if got, want := callCompress(t)(h, block, count, last), otherCompress(h, block, count, last); got != want {
		t.Errorf("Compress(%x, %q, %d, %t) = %x, want %x", h, block, count, last, got, want)
	}
}

var flags = []bool{false, true}

// counts are the counters at the limits of the low and the high word, among others.
func counts() []uint64 {
	l := []uint64{math.MaxUint32, math.MaxUint64, math.MaxUint64 - 1, math.MaxInt64, 0x0123456789abcdef, 3, 63, 64, 65, 128, 129}
	for bit := range 64 {
		l = append(l, 1<<bit, 1<<bit-1, 1<<bit+64)
	}
	return l
}

func states() [][8]uint32 {
	h := [8]uint32{0x6b08e647, 0xbb67ae85, 0x3c6ef372, 0xa54ff53a, 0x510e527f, 0x9b05688c, 0x1f83d9ab, 0x5be0cd19}
	l := [][8]uint32{h, {}, {1, 2, 3, 4, 5, 6, 7, 8}, {1 << 31}}
	var all [8]uint32
	for i := range all {
		all[i] = math.MaxUint32
	}
	r := random()
	for range 5 {
		for i := range h {
			h[i] = r.Uint32()
		}
		l = append(l, h)
	}
	return append(l, all)
}

func blocks() []string {
	r := random()
	return []string{zeros(64), strings.Repeat("\xff", 64), counting(64), "abc" + zeros(61), strings.Repeat("é", 32), strings.Repeat("日", 21) + "x", randomString(r, 64), randomString(r, 64)}
}

func TestCompressOfOtherLengths(t *testing.T) {
	for length := range 300 {
		if length == 64 {
			continue
		}
		for _, last := range flags {
			for _, count := range []uint64{0, uint64(length), math.MaxUint64} {
				h, e := Compress([8]uint32{1, 2, 3, 4, 5, 6, 7, 8}, counting(length), count, last)
				if e != api.ErrArgument || h != [8]uint32{} {
					t.Errorf("Compress of %d bytes = %x, %d", length, h, e)
				}
			}
		}
	}
	for _, block := range []string{strings.Repeat("é", 64), strings.Repeat("日", 64), strings.Repeat("é", 31) + "x", zeros(1 << 20)} {
		if h, e := Compress([8]uint32{1}, block, 64, true); e != api.ErrArgument || h != [8]uint32{} {
			t.Errorf("Compress of %d bytes = %x, %d", len(block), h, e)
		}
	}
}

func TestCompressExample(t *testing.T) {
	h := [8]uint32{0x6b08e647, 0xbb67ae85, 0x3c6ef372, 0xa54ff53a, 0x510e527f, 0x9b05688c, 0x1f83d9ab, 0x5be0cd19}
	want := [8]uint32{0x8c5e8c50, 0xe2147c32, 0xa32ba7e1, 0x2f45eb4e, 0x208b4537, 0x293ad69e, 0x4c9b994d, 0x82596786}
	if got := callCompress(t)(h, "abc"+zeros(61), 3, true); got != want {
		t.Errorf("Compress of abc = %x", got)
	}
	if h[0] != 0x6b08e647 {
		t.Error("Compress changed its argument")
	}
}

func TestCompressOfManyArguments(t *testing.T) {
	for _, h := range states() {
		for _, block := range blocks() {
			for _, count := range []uint64{0, 3, 64, 1 << 31, math.MaxUint32, 1 << 32, 1<<32 + 64, 1 << 63, math.MaxUint64} {
				for _, last := range flags {
					checkCompress(t, h, block, count, last)
				}
			}
		}
	}
}

func TestCompressOfManyCounters(t *testing.T) {
	for _, count := range counts() {
		for _, last := range flags {
			checkCompress(t, states()[0], counting(64), count, last)
		}
	}
}

func TestCompressOfEveryBit(t *testing.T) {
	for bit := range 512 {
		b := []byte(zeros(64))
		b[bit/8] = 1 << (bit % 8)
		checkCompress(t, [8]uint32{}, string(b), 0, false)
	}
	for bit := range 256 {
		var h [8]uint32
		h[bit/32] = 1 << (bit % 32)
		checkCompress(t, h, zeros(64), 0, true)
	}
}

func TestCompressDistinguishesCountersAndFlags(t *testing.T) {
	type argument struct {
		count uint64
		last  bool
	}
	seen := map[[8]uint32]argument{}
	for _, count := range counts() {
		for _, last := range flags {
			h := callCompress(t)([8]uint32{}, zeros(64), count, last)
			other, known := seen[h]
			if known && other != (argument{count, last}) {
				t.Errorf("the counters and flags %v and %v have the same state", other, argument{count, last})
			}
			seen[h] = argument{count, last}
		}
	}
}

func TestCompressComputesSum(t *testing.T) {
	for _, s := range messages() {
		check(t, "the digest of "+shorten(s)+" by Compress", chain(callCompress(t), 32, "", s), Sum(s))
	}
}

// fibonacci returns the input of the self-test of RFC 7693.
func fibonacci(length int, seed uint32) string {
	a, b := 0xDEAD4BAD*seed, uint32(1)
	s := make([]byte, length)
	for i := range s {
		a, b = b, a+b
		s[i] = byte(b >> 24)
	}
	return string(s)
}

// RFC 7693 gives one digest for a self-test, which stands for digests of four lengths with keys and without.
func TestCompressPassesTheSelfTestOfTheStandard(t *testing.T) {
	for _, compress := range []compression{callCompress(t), otherCompress} {
		var all []string
		for _, length := range []int{16, 20, 28, 32} {
			for _, n := range []int{0, 3, 64, 65, 255, 1024} {
				s := fibonacci(n, uint32(n))
				key := fibonacci(length, uint32(length))
				all = append(all, chain(compress, length, "", s), chain(compress, length, key, s))
			}
		}
		checkHex(t, "the digest of the self-test", Sum(all...), "6a411f08ce25adcdfb02aba641451cec53c598b24f4fc787fbdc88797f4c1dfe")
	}
}

// P4.3: Hex.

func TestHexExamples(t *testing.T) {
	for s, want := range map[string]string{
		"": "", "\x00": "00", "\x0f": "0f", "\xf0": "f0", "\xff": "ff", "\x9a": "9a", "\xa9": "a9", "az": "617a", "abc": "616263", "\x00\x00": "0000",
		"0f": "3066", "é": "c3a9", "日": "e697a5", "\xff\xfe": "fffe", "\xed\xa0\x80": "eda080", "\xef\xbf\xbd": "efbfbd", "\xde\xad\xbe\xef": "deadbeef",
	} {
		if got := Hex(s); got != want {
			t.Errorf("Hex(%q) = %s, want %s", s, got, want)
		}
	}
}

func TestHexOfEveryByte(t *testing.T) {
	for i := range 256 {
		s := string([]byte{byte(i)})
		want := strconv.FormatInt(int64(256+i), 16)[1:]
		if got := Hex(s); got != want {
			t.Errorf("Hex(%q) = %s, want %s", s, got, want)
		}
	}
}

func TestHexOfManyStrings(t *testing.T) {
	for _, s := range messages() {
		if got := Hex(s); got != hex.EncodeToString([]byte(s)) {
			t.Errorf("Hex of %s = %s", shorten(s), shorten(got))
		}
	}
}

// P4.4: Merkle.

// otherRoot computes the root from below: roots are joined in pairs, and one that is left over waits for the next level.
func otherRoot(leaves []string) string {
	if len(leaves) == 0 {
		return otherSum("empty")
	}
	var level []string
	for _, leaf := range leaves {
		level = append(level, otherSum("leaf"+leaf))
	}
	for len(level) > 1 {
		var above []string
		for pair := range slices.Chunk(level, 2) {
			if len(pair) == 2 {
				above = append(above, otherSum("node"+pair[0]+pair[1]))
			} else {
				above = append(above, pair[0])
			}
		}
		level = above
	}
	return level[0]
}

// numbered returns n leaves, the decimal numbers from 0.
func numbered(n int) []string {
	var l []string
	for i := range n {
		l = append(l, strconv.Itoa(i))
	}
	return l
}

func leaf(s string) string {
	return otherSum("leaf" + s)
}

func node(a, b string) string {
	return otherSum("node" + a + b)
}

func TestMerkleOfFewLeaves(t *testing.T) {
	ab, cd := node(leaf("a"), leaf("b")), node(leaf("c"), leaf("d"))
	abcd, ef := node(ab, cd), node(leaf("e"), leaf("f"))
	for _, c := range []struct {
		leaves []string
		want   string
	}{
		{nil, otherSum("empty")},
		{[]string{}, otherSum("empty")},
		{[]string{""}, leaf("")},
		{[]string{"a"}, leaf("a")},
		{[]string{"empty"}, leaf("empty")},
		{[]string{"leaf"}, leaf("leaf")},
		{[]string{"", ""}, node(leaf(""), leaf(""))},
		{[]string{"a", "b"}, ab},
		{[]string{"b", "a"}, node(leaf("b"), leaf("a"))},
		{[]string{"a", "a"}, node(leaf("a"), leaf("a"))},
		{[]string{"a", "b", "c"}, node(ab, leaf("c"))},
		{[]string{"a", "b", "c", "d"}, abcd},
		{[]string{"a", "b", "c", "d", "e"}, node(abcd, leaf("e"))},
		{[]string{"a", "b", "c", "d", "e", "f"}, node(abcd, ef)},
		{[]string{"a", "b", "c", "d", "e", "f", "g"}, node(abcd, node(ef, leaf("g")))},
		{[]string{"a", "b", "c", "d", "a", "b", "c", "d"}, node(abcd, abcd)},
		{[]string{"a", "b", "c", "d", "a", "b", "c", "d", "e"}, node(node(abcd, abcd), leaf("e"))},
	} {
		check(t, "Merkle of "+strings.Join(c.leaves, " "), Merkle(c.leaves), c.want)
	}
}

// The roots were computed by another program, with Python's library.
func TestMerkleOfNumbers(t *testing.T) {
	for _, c := range []struct {
		leaves int
		want   string
	}{
		{0, "61fd5e5a95ac8beea99090ef47113e4e0ddb7e25be25fc31d5fbcd051c2ce196"},
		{1, "a618b663720528413d0788517909bcab162fbb0d4bb6874a3dd82fee29328d72"},
		{2, "85e516459b84390bbe61fd8ceec5f8be972e4347012d0613b19e0cf2f09335ff"},
		{3, "7a780a5605c426f8cbb60467940ecd675a86507eef9da1b8676466c24bcb7386"},
		{4, "66ad33be6a26c54d5e176a82566b10eb6c9d4a4e18f31228a5f8a17e8bbc76b0"},
		{5, "3ea75cfec68b1ac31c3fc2f4e20038d264fa8c784d9b77bd7c9d8dc8a2ab614e"},
		{6, "539cbf38a446e24b6fc7feff3eb9667175dd4222207394ee44d09c1ba80bbe0c"},
		{7, "d614132b194ea371730b9ebc9f4b92fd518f7b838b2f5ac5e0f454f0e327b9ab"},
		{8, "82584293e909c01fe2b67dfcfaa0b23e52ac80dc092285a0b5f5e88ada532c20"},
		{9, "69cc9d9d5002d5b3dc7ee8d14f716c6b0daa40fe582b18be094e1c40e4a0a936"},
		{15, "1bf7617e5a380b31e2d6f77f5abdc3f891026acdb3b35979d108ea370c4c95aa"},
		{16, "89492cacf730f8b98bed7a788ddcde4a6f753cc8025745766d9e826325fff6ec"},
		{17, "f59a346d452fd52f722b8c721554bfb59b1f1a66e57f999b7bafa0f10108fb3a"},
		{100, "1c00addd7d915cacf38f32af52a124b6230f511e63d65aa692e43416a88ffe8f"},
	} {
		checkHex(t, "Merkle of "+strconv.Itoa(c.leaves)+" numbers", Merkle(numbered(c.leaves)), c.want)
	}
	checkHex(t, "Merkle of an empty leaf", Merkle([]string{""}), "2c8a62bc7138926c4e5f1028b242ff9b31bdb2f5dcd0cc6ac2ce19f6193eed05")
	var all []string
	for n := range 300 {
		all = append(all, Merkle(numbered(n)))
	}
	checkHex(t, "Sum of all roots", Sum(all...), "025cdef14f70851ddf2e02c2079cde909b463f3bf4f05fcf4bf028af1c4045eb")
}

func TestMerkleFromBelow(t *testing.T) {
	l := messages()
	for _, n := range []int{0, 1, 2, 3, 4, 5, 7, 8, 9, 15, 16, 17, 31, 32, 33, 63, 64, 65, 127, 128, 129, 255, 256, 257, len(l)} {
		leaves := l[len(l)-n:]
		before := slices.Clone(leaves)
		check(t, "Merkle of "+strconv.Itoa(n)+" messages", Merkle(leaves), otherRoot(leaves))
		if !slices.Equal(leaves, before) {
			t.Error("Merkle changed its argument")
		}
	}
	for _, n := range []int{1023, 1024, 1025, 5000} {
		check(t, "Merkle of "+strconv.Itoa(n)+" empty leaves", Merkle(make([]string, n)), otherRoot(make([]string, n)))
	}
}

func TestMerkleDistinguishesLists(t *testing.T) {
	lists := [][]string{
		nil, {""}, {"", ""}, {"", "", ""}, {"a"}, {"b"}, {"a", "b"}, {"b", "a"}, {"ab"}, {"a", "", "b"}, {"", "a", "b"}, {"a", "b", ""}, {"a", "b", "b"},
		{"a", "b", "c"}, {"a", "bc"}, {"ab", "c"}, {"abc"}, {"a", "b", "c", "d"}, {"a", "b", "d", "c"}, {"c", "d", "a", "b"},
		{leaf("a") + leaf("b")}, {leaf("a"), leaf("b")}, {"leafa"}, {"node" + leaf("a") + leaf("b")}, {otherSum("empty")}, {"empty"},
	}
	roots := map[string]int{}
	for i, l := range lists {
		root := Merkle(l)
		if len(root) != 32 {
			t.Errorf("the root of %q has %d bytes", l, len(root))
		}
		if other, known := roots[root]; known {
			t.Errorf("%q and %q have the same root", lists[other], l)
		}
		roots[root] = i
	}
}

// P4.5: the consequences.

func TestSumOfPartsDividedAtEveryPlace(t *testing.T) {
	for _, n := range edges {
		s := counting(n)
		want := otherSum(s)
		for i := range n + 1 {
			check(t, "Sum of two parts", Sum(s[:i], s[i:]), want)
			check(t, "Sum of two parts with empty ones", Sum("", s[:i], "", "", s[i:], ""), want)
		}
		check(t, "Sum of bytes", Sum(strings.Split(s, "")...), want)
	}
}

func TestSumOfThreePartsDividedAtEveryPlace(t *testing.T) {
	for _, s := range []string{"", "a", "abc", "日本語", counting(63), counting(64), counting(65), counting(129), zeros(128)} {
		want := otherSum(s)
		for i := range len(s) + 1 {
			for j := i; j <= len(s); j++ {
				check(t, "Sum of three parts", Sum(s[:i], s[i:j], s[j:]), want)
			}
		}
	}
}

func TestSumOfEqualParts(t *testing.T) {
	s := randomString(random(), 1000)
	want := otherSum(s)
	for size := 1; size <= 200; size++ {
		var parts []string
		for part := range slices.Chunk([]byte(s), size) {
			parts = append(parts, string(part))
		}
		check(t, "Sum of parts of "+strconv.Itoa(size)+" bytes", Sum(parts...), want)
	}
}

func TestSumOfManyParts(t *testing.T) {
	l := messages()
	before := slices.Clone(l)
	check(t, "Sum of many parts", Sum(l...), otherSum(strings.Join(l, "")))
	if !slices.Equal(l, before) {
		t.Error("Sum changed its arguments")
	}
}

func TestMerkleGrowsByALeaf(t *testing.T) {
	for power := 1; power <= 2048; power *= 2 {
		leaves := numbered(power)
		for _, last := range []string{"", "x", "0", "empty", counting(64)} {
			grown := append(slices.Clone(leaves), last)
			check(t, "Merkle of one leaf more than "+strconv.Itoa(power), Merkle(grown), node(Merkle(leaves), leaf(last)))
		}
	}
}

// Until the right half is full, the left half keeps its root.
func TestMerkleKeepsItsLeftHalf(t *testing.T) {
	for power := 1; power <= 64; power *= 2 {
		leaves := numbered(2 * power)
		left := Merkle(leaves[:power])
		for n := power + 1; n <= 2*power; n++ {
			check(t, "Merkle of "+strconv.Itoa(n)+" leaves", Merkle(leaves[:n]), node(left, Merkle(leaves[power:n])))
		}
	}
}
