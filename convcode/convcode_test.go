package convcode

import (
	"math"
	"math/bits"
	"math/rand/v2"
	"strings"
	"testing"

	"stele/api"
)

const mostBits = 65536

// otherEncode multiplies by the generators 7 and 5 (octal): a cell is the parity of those of the last three bits that a generator selects.
func otherEncode(s string) string {
	var word []byte
	var last uint
	for _, b := range []byte(s + "00") {
		last = last<<1 | uint(b-'0')
		for _, generator := range []uint{0o7, 0o5} {
			word = append(word, '0'+byte(bits.OnesCount(last&generator)%2))
		}
	}
	return string(word)
}

// stringsOf returns all strings over the alphabet with that length.
func stringsOf(alphabet string, length int) []string {
	all := []string{""}
	for range length {
		var longer []string
		for _, s := range all {
			for i := range len(alphabet) {
				longer = append(longer, s+alphabet[i:i+1])
			}
		}
		all = longer
	}
	return all
}

// stringsUpTo returns all strings over the alphabet with at most that length.
func stringsUpTo(alphabet string, length int) []string {
	var all []string
	for n := range length + 1 {
		all = append(all, stringsOf(alphabet, n)...)
	}
	return all
}

func random() *rand.Rand {
	return rand.New(rand.NewPCG(9, 75))
}

func randomBits(r *rand.Rand, length int) string {
	s := make([]byte, length)
	for i := range s {
		s[i] = '0' + byte(r.IntN(2))
	}
	return string(s)
}

// someBits returns random strings of bits with various lengths, some of them of the greatest one.
func someBits() []string {
	r := random()
	l := []string{strings.Repeat("0", mostBits), strings.Repeat("1", mostBits), randomBits(r, mostBits), randomBits(r, mostBits-1)}
	for n := range 500 {
		l = append(l, randomBits(r, n))
	}
	return l
}

// inverted returns s with the cells at the indices inverted.
func inverted(s string, indices ...int) string {
	b := []byte(s)
	for _, i := range indices {
		b[i] ^= '0' ^ '1'
	}
	return string(b)
}

// xor returns the bitwise exclusive or of two strings of bits of equal length.
func xor(a, b string) string {
	x := []byte(a)
	for i := range x {
		x[i] ^= b[i] ^ '0'
	}
	return string(x)
}

func distance(a, b string) int {
	return strings.Count(xor(a, b), "1")
}

// short returns s such that an error message can show it.
func short(s string) string {
	if len(s) > 100 {
		return s[:100] + "..."
	}
	return s
}

func checkNext(t *testing.T, state, bit, next int, cells string) {
	t.Helper()
	if s, c := Next(state, bit); s != next || c != cells {
		t.Errorf("Next(%d, %d) = %d, %q, want %d, %q", state, bit, s, c, next, cells)
	}
}

func checkEncode(t *testing.T, bits, want string) {
	t.Helper()
	if c, e := Encode(bits); c != want || e != api.OK {
		t.Errorf("Encode(%q) = %q, %d, want %q", short(bits), short(c), e, short(want))
	}
}

func checkWeight(t *testing.T, bits string, want int) {
	t.Helper()
	if n, e := Weight(bits); n != want || e != api.OK {
		t.Errorf("Weight(%q) = %d, %d, want %d", short(bits), n, e, want)
	}
}

// checkNotEncoded checks that neither Encode nor Weight has a result.
func checkNotEncoded(t *testing.T, bits string, want api.Errno) {
	t.Helper()
	if c, e := Encode(bits); c != "" || e != want {
		t.Errorf("Encode(%q) = %q, %d, want error %d", short(bits), short(c), e, want)
	}
	if n, e := Weight(bits); n != 0 || e != want {
		t.Errorf("Weight(%q) = %d, %d, want error %d", short(bits), n, e, want)
	}
}

func checkExtract(t *testing.T, c, want string) {
	t.Helper()
	if b, e := Extract(c); b != want || e != api.OK {
		t.Errorf("Extract(%q) = %q, %d, want %q", short(c), short(b), e, short(want))
	}
}

func checkNotExtracted(t *testing.T, c string, want api.Errno) {
	t.Helper()
	if b, e := Extract(c); b != "" || e != want {
		t.Errorf("Extract(%q) = %q, %d, want error %d", short(c), short(b), e, want)
	}
}

// P9.1: Next.

func TestNextOfEveryStateAndBit(t *testing.T) {
	for _, c := range []struct {
		state, bit, next int
		cells            string
	}{
		{0, 0, 0, "00"}, {0, 1, 2, "11"},
		{1, 0, 0, "11"}, {1, 1, 2, "00"},
		{2, 0, 1, "10"}, {2, 1, 3, "01"},
		{3, 0, 1, "01"}, {3, 1, 3, "10"},
	} {
		checkNext(t, c.state, c.bit, c.next, c.cells)
	}
}

func TestNextOfAnyNumbers(t *testing.T) {
	for _, c := range []struct {
		state, bit, next int
		cells            string
	}{
		{-1, -1, 3, "10"}, {4, 2, 0, "00"}, {-4, -2, 0, "00"}, {-2, 0, 1, "10"}, {-3, 1, 2, "00"}, {-3, -2, 0, "11"}, {7, 3, 3, "10"},
		{math.MaxInt, math.MaxInt, 3, "10"}, {math.MinInt, math.MinInt, 0, "00"}, {math.MinInt + 1, math.MaxInt, 2, "00"}, {math.MaxInt - 1, math.MinInt + 1, 3, "01"},
	} {
		checkNext(t, c.state, c.bit, c.next, c.cells)
	}
}

// remainder returns the remainder of n from 0 upwards.
func remainder(n, divisor int) int {
	if r := n % divisor; r < 0 {
		return r + divisor
	}
	return n % divisor
}

func TestOnlyTheRemaindersCount(t *testing.T) {
	var numbers []int
	for i := range 20 {
		numbers = append(numbers, i, -i, math.MaxInt-i, math.MinInt+i, 1<<32+i, -1<<32-i, math.MaxInt32-i, math.MinInt32+i)
	}
	for _, state := range numbers {
		for _, bit := range numbers {
			next, cells := Next(remainder(state, 4), remainder(bit, 2))
			checkNext(t, state, bit, next, cells)
		}
	}
}

func TestTheStateConsistsOfTheLastTwoBits(t *testing.T) {
	for state := range 4 {
		for _, s := range stringsOf("01", 2) {
			middle, _ := Next(state, int(s[0]-'0'))
			end, _ := Next(middle, int(s[1]-'0'))
			if want := 2*int(s[1]-'0') + int(s[0]-'0'); end != want {
				t.Errorf("from state %d, %q leads to %d, want %d", state, s, end, want)
			}
		}
	}
}

func TestNextYieldsTheCodeWord(t *testing.T) {
	for _, s := range someBits() {
		var word strings.Builder
		state := 0
		for _, b := range []byte(s + "00") {
			next, cells := Next(state, int(b-'0'))
			word.WriteString(cells)
			state = next
		}
		if state != 0 || word.String() != otherEncode(s) {
			t.Errorf("%q leads to state %d with the cells %q", short(s), state, short(word.String()))
		}
	}
}

// P9.2: Encode and Weight.

func TestEncodeExamples(t *testing.T) {
	for _, c := range []struct {
		bits, cells string
		weight      int
	}{
		{"", "0000", 0}, {"0", "000000", 0}, {"1", "111011", 5}, {"00", "00000000", 0}, {"01", "00111011", 5}, {"10", "11101100", 5}, {"11", "11010111", 6},
		{"101", "1110001011", 6}, {"111", "1101100111", 7}, {"1000", "111011000000", 5}, {"0001", "000000111011", 5},
	} {
		checkEncode(t, c.bits, c.cells)
		checkWeight(t, c.bits, c.weight)
	}
}

func TestEncode(t *testing.T) {
	for _, s := range append(stringsUpTo("01", 12), someBits()...) {
		want := otherEncode(s)
		if len(want) != 2*(len(s)+2) {
			t.Fatalf("the code word of %q is %q", short(s), short(want))
		}
		checkEncode(t, s, want)
	}
}

func TestWeight(t *testing.T) {
	for _, s := range append(stringsUpTo("01", 12), someBits()...) {
		checkWeight(t, s, strings.Count(otherEncode(s), "1"))
	}
}

func TestEncodeOfManyBits(t *testing.T) {
	zeros := strings.Repeat("0", mostBits-1)
	checkEncode(t, zeros+"1", strings.Repeat("0", 2*len(zeros))+"111011")
	checkEncode(t, "1"+zeros, "111011"+strings.Repeat("0", 2*len(zeros)))
	checkWeight(t, zeros+"1", 5)
	// But for two pairs at each end, every pair of cells of this code word is 10.
	checkWeight(t, strings.Repeat("1", mostBits), mostBits+4)
	checkNotEncoded(t, zeros+"00", api.ErrLimit)
	checkNotEncoded(t, zeros+"01", api.ErrLimit)
	checkNotEncoded(t, strings.Repeat("1", 3*mostBits), api.ErrLimit)
}

// otherStrings returns strings that contain other bytes than the alphabet.
func otherStrings(alphabet string) []string {
	l := []string{"é", "0é", "０", "１", "\u0130", "\u0131", "0\u0131", "\xff", "\x00", "1 ", " 1", "1\n", "0b1", "-1", "+1", "1_0", "2", "01x", "x01", strings.Repeat("0", 1000) + "a"}
	for i := range 256 {
		b := string([]byte{byte(i)})
		if !strings.Contains(alphabet, b) {
			l = append(l, b, "0"+b, b+"1", "10"+b+"1", "11101"+b)
		}
	}
	return l
}

func TestEncodeOfOtherBytes(t *testing.T) {
	for _, s := range append(otherStrings("01"), "?", "01?", "?01", "0?1") {
		checkNotEncoded(t, s, api.ErrSyntax)
	}
	for at := range 40 {
		checkNotEncoded(t, strings.Repeat("1", at)+"x"+strings.Repeat("0", 39-at), api.ErrSyntax)
	}
}

func TestTheLimitOfEncodeComesFirst(t *testing.T) {
	zeros := strings.Repeat("0", mostBits-1)
	for _, s := range []string{"x", "?", "\x00", "\xff"} {
		checkNotEncoded(t, zeros+s, api.ErrSyntax)
		checkNotEncoded(t, s+zeros, api.ErrSyntax)
		checkNotEncoded(t, zeros+"0"+s, api.ErrLimit)
		checkNotEncoded(t, s+"0"+zeros, api.ErrLimit)
	}
	// The limit counts bytes: é has two of them.
	checkNotEncoded(t, strings.Repeat("é", mostBits/2), api.ErrSyntax)
	checkNotEncoded(t, strings.Repeat("é", mostBits/2)+"0", api.ErrLimit)
}

// P9.3: Extract.

func TestExtractExamples(t *testing.T) {
	for _, c := range []struct{ cells, bits string }{
		{"0000", ""}, {"000000", "0"}, {"111011", "1"}, {"11101100", "10"}, {"00111011", "01"}, {"11010111", "11"}, {"1110001011", "101"}, {"1101100111", "111"},
	} {
		checkExtract(t, c.cells, c.bits)
	}
	for _, c := range []struct {
		cells string
		e     api.Errno
	}{
		{"", api.ErrShort}, {"0", api.ErrShort}, {"00", api.ErrShort}, {"?", api.ErrShort}, {"??", api.ErrShort}, {"000", api.ErrShort}, {"00000", api.ErrShort}, {"1110110", api.ErrShort},
		{"1", api.ErrShort}, {"11101", api.ErrShort}, {"x", api.ErrSyntax}, {"0000x", api.ErrSyntax}, {"0000xx", api.ErrSyntax},
		{"111111", api.ErrDecode}, {"0011", api.ErrDecode}, {"1110", api.ErrDecode}, {"????", api.ErrDecode}, {"000?", api.ErrDecode}, {"?000", api.ErrDecode}, {"11101?", api.ErrDecode}, {"1?1011", api.ErrDecode},
	} {
		checkNotExtracted(t, c.cells, c.e)
	}
}

// bitsOfCodeWords returns the bits of all code words with at most that many of them.
func bitsOfCodeWords(length int) map[string]string {
	bitsOf := make(map[string]string)
	for _, s := range stringsUpTo("01", length) {
		bitsOf[otherEncode(s)] = s
	}
	return bitsOf
}

func TestExtractOfAllShortCellStrings(t *testing.T) {
	bitsOf := bitsOfCodeWords(6)
	for _, c := range append(stringsUpTo("01?", 12), stringsUpTo("01", 16)...) {
		s, ok := bitsOf[c]
		switch {
		case ok:
			checkExtract(t, c, s)
		case len(c) < 4 || len(c)%2 == 1:
			checkNotExtracted(t, c, api.ErrShort)
		default:
			checkNotExtracted(t, c, api.ErrDecode)
		}
	}
}

func TestExtractOfOtherBytes(t *testing.T) {
	for _, c := range otherStrings("01?") {
		checkNotExtracted(t, c, api.ErrSyntax)
	}
	word := otherEncode("1011001110001111")
	for at := range len(word) {
		for _, b := range []string{"x", "2", "/", "@", "\x00", "\x10", "\x11", "\xb0", "\xff"} {
			checkNotExtracted(t, word[:at]+b+word[at+1:], api.ErrSyntax)
			checkNotExtracted(t, word[:at]+b+word[at:], api.ErrSyntax)
		}
	}
}

func TestTheSyntaxOfExtractComesFirst(t *testing.T) {
	for n := range 10 {
		for _, c := range []string{strings.Repeat("0", n), strings.Repeat("?", n), strings.Repeat("1", n)} {
			checkNotExtracted(t, c+"x", api.ErrSyntax)
			checkNotExtracted(t, "x"+c, api.ErrSyntax)
		}
	}
	long := strings.Repeat("0", 2*(mostBits+3))
	checkNotExtracted(t, long+"x", api.ErrSyntax)
	checkNotExtracted(t, long+"xx", api.ErrSyntax)
	checkNotExtracted(t, long+"0", api.ErrShort)
	checkNotExtracted(t, long+"?", api.ErrShort)
}

func TestExtractOfUnreadableCells(t *testing.T) {
	for _, s := range stringsUpTo("01", 7) {
		word := otherEncode(s)
		for at := range len(word) {
			checkNotExtracted(t, word[:at]+"?"+word[at+1:], api.ErrDecode)
		}
		checkNotExtracted(t, strings.Repeat("?", len(word)), api.ErrDecode)
	}
	r := random()
	long := otherEncode(randomBits(r, 5000))
	for range 100 {
		at := r.IntN(len(long))
		checkNotExtracted(t, long[:at]+"?"+long[at+1:], api.ErrDecode)
	}
}

func TestExtractOfManyBits(t *testing.T) {
	r := random()
	for _, s := range []string{strings.Repeat("0", mostBits), strings.Repeat("1", mostBits), randomBits(r, mostBits)} {
		word := otherEncode(s)
		checkExtract(t, word, s)
		for _, at := range []int{0, 1, len(word) / 2, len(word) - 2, len(word) - 1} {
			checkNotExtracted(t, inverted(word, at), api.ErrDecode)
		}
		checkNotExtracted(t, otherEncode(s+"0"), api.ErrDecode)
		checkNotExtracted(t, otherEncode(s+"1"), api.ErrDecode)
		checkNotExtracted(t, otherEncode(s+s), api.ErrDecode)
	}
}

func TestTheLastTwoBitsAreZero(t *testing.T) {
	for _, s := range stringsUpTo("01", 8) {
		// Without the tail, what is left is the output for the bits of s alone.
		output := otherEncode(s)[:2*len(s)]
		switch {
		case strings.HasSuffix(s, "00"):
			checkExtract(t, output, s[:len(s)-2])
		case len(s) >= 2:
			checkNotExtracted(t, output, api.ErrDecode)
		default:
			checkNotExtracted(t, output, api.ErrShort)
		}
	}
}

// P9.4: Extract is the inverse of Encode.

func TestExtractReversesEncode(t *testing.T) {
	for _, s := range append(stringsUpTo("01", 12), someBits()...) {
		c, e := Encode(s)
		if e != api.OK {
			t.Fatalf("Encode(%q): error %d", short(s), e)
		}
		checkExtract(t, c, s)
	}
}

func TestEncodeReversesExtract(t *testing.T) {
	count := 0
	for _, c := range stringsUpTo("01", 16) {
		if s, e := Extract(c); e == api.OK {
			checkEncode(t, s, c)
			count++
		}
	}
	// There is one code word for each string of at most 6 bits.
	if count != 127 {
		t.Errorf("%d code words have at most 16 cells", count)
	}
}

// P9.4: linearity.

func encoded(t *testing.T, bits string) string {
	t.Helper()
	c, e := Encode(bits)
	if e != api.OK || len(c) != 2*(len(bits)+2) {
		t.Fatalf("Encode(%q) = %q, %d", short(bits), short(c), e)
	}
	return c
}

func TestTheCodeIsLinear(t *testing.T) {
	for n := range 8 {
		for _, a := range stringsOf("01", n) {
			for _, b := range stringsOf("01", n) {
				checkEncode(t, xor(a, b), xor(encoded(t, a), encoded(t, b)))
				checkExtract(t, xor(encoded(t, a), encoded(t, b)), xor(a, b))
			}
		}
	}
	r := random()
	for _, n := range []int{8, 9, 100, 416, 1000, 65535, 65536} {
		a, b := randomBits(r, n), randomBits(r, n)
		checkEncode(t, xor(a, b), xor(encoded(t, a), encoded(t, b)))
		checkExtract(t, xor(encoded(t, a), encoded(t, b)), xor(a, b))
	}
}

// P9.4: distance.

func TestDifferentCodeWordsDifferInFiveCells(t *testing.T) {
	for n := 1; n <= 7; n++ {
		least := math.MaxInt
		for _, a := range stringsOf("01", n) {
			for _, b := range stringsOf("01", n) {
				if a != b {
					least = min(least, distance(encoded(t, a), encoded(t, b)))
				}
			}
		}
		if least != 5 {
			t.Errorf("code words of %d bits differ in %d cells", n, least)
		}
	}
}

// The code is linear, so the least weight but 0 is the least distance.
func TestTheLeastWeightIsFive(t *testing.T) {
	for n := 1; n <= 14; n++ {
		least := math.MaxInt
		for _, s := range stringsOf("01", n) {
			if weight, e := Weight(s); e != api.OK || (weight == 0) != !strings.Contains(s, "1") {
				t.Errorf("Weight(%q) = %d, %d", s, weight, e)
			} else if weight > 0 {
				least = min(least, weight)
			}
		}
		if least != 5 {
			t.Errorf("code words of %d bits have the weight %d", n, least)
		}
	}
}

func TestUpToFourChangesYieldNoCodeWord(t *testing.T) {
	r := random()
	for n := range 60 {
		word := encoded(t, randomBits(r, n))
		for i := range len(word) {
			checkNotExtracted(t, inverted(word, i), api.ErrDecode)
			for j := range i {
				checkNotExtracted(t, inverted(word, i, j), api.ErrDecode)
			}
		}
		for range 200 {
			p := r.Perm(len(word))
			checkNotExtracted(t, inverted(word, p[:3]...), api.ErrDecode)
			checkNotExtracted(t, inverted(word, p[:4]...), api.ErrDecode)
		}
	}
}

func TestFiveChangesMayYieldAnotherCodeWord(t *testing.T) {
	s := randomBits(random(), 50)
	word := encoded(t, s)
	for i := range len(s) {
		// These are the cells 1 of the code word 111011 from the pair of the bit on.
		checkExtract(t, inverted(word, 2*i, 2*i+1, 2*i+2, 2*i+4, 2*i+5), inverted(s, i))
	}
}
