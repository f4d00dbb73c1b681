package reedsolomon

import (
	"bytes"
	"math"
	"math/rand/v2"
	"strings"
	"testing"

	"stele/api"
	"stele/gf256"
)

// powers contains the powers of 2 with the exponents 0 to 254.
var powers = func() [255]byte {
	var table [255]byte
	table[0] = 1
	for i := range 254 {
		table[i+1] = gf256.Mul(2, table[i])
	}
	return table
}()

// otherSyndromes sums up, for each syndrome, the terms of the word's polynomial.
func otherSyndromes(word string, parity int) []byte {
	syndromes := make([]byte, parity)
	for i := range parity {
		for k := range len(word) {
			degree := len(word) - 1 - k
			syndromes[i] ^= gf256.Mul(word[k], powers[i*degree%255])
		}
	}
	return syndromes
}

// product returns the product of x - 2^i for all i below parity but one, from the highest degree downwards.
func product(parity, except int) []byte {
	p := []byte{1}
	for i := range parity {
		if i == except {
			continue
		}
		p = append(p, 0)
		for k := len(p) - 1; k > 0; k-- {
			p[k] ^= gf256.Mul(p[k-1], powers[i])
		}
	}
	return p
}

// otherIsCodeword reports whether the generator polynomial divides the word, by a division in place.
func otherIsCodeword(word string, parity int) bool {
	divisor := product(parity, -1)
	rest := []byte(word)
	for i := range len(rest) - parity {
		factor := rest[i]
		for k, c := range divisor {
			rest[i+k] ^= gf256.Mul(factor, c)
		}
	}
	return bytes.Count(rest, []byte{0}) == len(rest)
}

func random() *rand.Rand {
	return rand.New(rand.NewPCG(7, 256))
}

func randomString(r *rand.Rand, length int) string {
	s := make([]byte, length)
	for i := range s {
		s[i] = byte(r.Uint32())
	}
	return string(s)
}

// changed returns s with changes of that many bytes.
func changed(r *rand.Rand, s string, count int) string {
	b := []byte(s)
	for _, i := range r.Perm(len(b))[:count] {
		b[i] ^= byte(1 + r.IntN(255))
	}
	return string(b)
}

func xor(a, b string) string {
	x := []byte(a)
	for i := range x {
		x[i] ^= b[i]
	}
	return string(x)
}

// distance returns the number of bytes in which two strings of equal length differ.
func distance(a, b string) int {
	x := xor(a, b)
	return len(x) - strings.Count(x, "\x00")
}

func encoded(t *testing.T, data string, parity int) string {
	t.Helper()
	w, e := Encode(data, parity)
	if e != api.OK || len(w) != len(data)+parity {
		t.Fatalf("Encode of %q, %d = %q, %d", data, parity, w, e)
	}
	return w
}

func syndromes(t *testing.T, word string, parity int) []byte {
	t.Helper()
	s, e := Syndromes(word, parity)
	if e != api.OK || len(s) != parity {
		t.Fatalf("Syndromes of %q, %d = %v, %d", word, parity, s, e)
	}
	return s
}

// lengthsOfData returns some lengths of data that fit into a word with that many parity symbols, the least and the greatest among them.
func lengthsOfData(parity int) []int {
	return []int{0, 1, 2, 3, 17, 44, 100, 191 - parity, 254 - parity, 255 - parity}
}

var wrongParities = []int{0, -1, -2, -64, -65, -255, 65, 66, 128, 254, 255, 256, 257, 1 << 32, 1<<32 + 2, math.MinInt, math.MinInt + 1, math.MaxInt, math.MaxInt - 254}

// P7.1: Generator.

func TestGeneratorExamples(t *testing.T) {
	for parity, want := range map[int][]byte{
		1: {1, 1}, 2: {2, 3, 1}, 3: {8, 14, 7, 1}, 4: {64, 120, 54, 15, 1},
		8: {24, 200, 173, 239, 54, 81, 11, 255, 1},
	} {
		if g, e := Generator(parity); !bytes.Equal(g, want) || e != api.OK {
			t.Errorf("Generator of %d = %v, %d, want %v, 0", parity, g, e, want)
		}
	}
}

// QR codes use the same field and the same generator polynomials. Their standard lists the logarithms, from the highest degree downwards.
func TestGeneratorsOfQRCodes(t *testing.T) {
	for _, logarithms := range [][]int{
		{0, 87, 229, 146, 149, 238, 102, 21},
		{0, 251, 67, 46, 61, 118, 70, 64, 94, 32, 45},
		{0, 74, 152, 176, 100, 86, 100, 106, 104, 130, 218, 206, 140, 78},
	} {
		parity := len(logarithms) - 1
		var want []byte
		for i := range logarithms {
			want = append(want, powers[logarithms[parity-i]])
		}
		if g, e := Generator(parity); !bytes.Equal(g, want) || e != api.OK {
			t.Errorf("Generator of %d = %v, %d, want %v, 0", parity, g, e, want)
		}
	}
}

// valueAt sums up the terms of a polynomial, whose coefficients are listed from degree 0 upwards.
func valueAt(p []byte, x byte) byte {
	var value byte
	power := byte(1)
	for _, c := range p {
		value ^= gf256.Mul(c, power)
		power = gf256.Mul(power, x)
	}
	return value
}

// A polynomial of this degree with the leading coefficient 1 is fixed by its roots.
func TestGeneratorHasTheRootsAndTheDegree(t *testing.T) {
	for parity := 1; parity <= 64; parity++ {
		g, e := Generator(parity)
		if e != api.OK || len(g) != parity+1 || g[parity] != 1 {
			t.Fatalf("Generator of %d = %v, %d", parity, g, e)
		}
		for i, x := range powers {
			if (valueAt(g, x) == 0) != (i < parity) {
				t.Errorf("Generator of %d has the value %d at 2^%d", parity, valueAt(g, x), i)
			}
		}
	}
}

func TestGeneratorOfWrongParity(t *testing.T) {
	for _, parity := range wrongParities {
		if g, e := Generator(parity); len(g) != 0 || e != api.ErrRange {
			t.Errorf("Generator of %d = %v, %d, want nothing, 2", parity, g, e)
		}
	}
}

func TestResultsAreNewMemory(t *testing.T) {
	for range 2 {
		g, _ := Generator(2)
		if !bytes.Equal(g, []byte{2, 3, 1}) {
			t.Errorf("Generator of 2 = %v", g)
		}
		s, _ := Syndromes("\x00\x03\x02", 2)
		if !bytes.Equal(s, []byte{1, 4}) {
			t.Errorf("Syndromes = %v", s)
		}
		for _, result := range [][]byte{g, s} {
			for i := range result {
				result[i] ^= 0xff
			}
		}
	}
}

// P7.1: Encode.

func TestEncodeExamples(t *testing.T) {
	for _, c := range []struct {
		data   string
		parity int
		want   string
	}{
		{"\x01", 2, "\x03\x02"}, {"\x02", 2, "\x06\x04"}, {"\x80", 2, "\x9d\x1d"}, {"\x00\x01", 2, "\x03\x02"}, {"\x01\x00", 2, "\x07\x06"}, {"\xff", 1, "\xff"},
		{"\xff\xff", 1, "\x00"}, {"abc", 1, "\x60"}, {"", 1, "\x00"}, {"", 3, "\x00\x00\x00"}, {"", 64, strings.Repeat("\x00", 64)}, {"\x00", 2, "\x00\x00"},
		{"\xff", 4, string([]byte{108, 229, 71, 49})}, {"\x00\x00\xc8", 3, string([]byte{66, 132, 14})}, {"stele", 8, string([]byte{51, 141, 223, 43, 210, 39, 193, 21})},
		{strings.Repeat("\x00", 247), 8, strings.Repeat("\x00", 8)},
	} {
		if w, e := Encode(c.data, c.parity); w != c.data+c.want || e != api.OK {
			t.Errorf("Encode of %q, %d = %q, %d, want %q, 0", c.data, c.parity, w, e, c.data+c.want)
		}
	}
}

// This is the text HELLO WORLD in a QR code of the smallest size.
func TestEncodeQRCode(t *testing.T) {
	data := string([]byte{32, 91, 11, 120, 209, 114, 220, 77, 67, 64, 236, 17, 236, 17, 236, 17})
	want := data + string([]byte{196, 35, 39, 119, 235, 215, 231, 226, 93, 23})
	if w, e := Encode(data, 10); w != want || e != api.OK {
		t.Errorf("Encode of %q, 10 = %q, %d, want %q, 0", data, w, e, want)
	}
}

func TestEncodeOfUpTo247Bytes(t *testing.T) {
	data := make([]byte, 247)
	for i := range data {
		data[i] = byte(i)
	}
	if w, e := Encode(string(data), 8); w != string(data)+string([]byte{80, 52, 84, 135, 162, 197, 255, 216}) || e != api.OK {
		t.Errorf("Encode of 247 bytes = %q, %d", w, e)
	}
	want := string(data[:191]) + string([]byte{140, 27, 230, 148, 208, 87})
	if w, e := Encode(string(data[:191]), 64); len(w) != 255 || !strings.HasPrefix(w, want) || e != api.OK {
		t.Errorf("Encode of 191 bytes = %q, %d", w, e)
	}
}

func TestEncodeReturnsACodeWordThatBeginsWithTheData(t *testing.T) {
	r := random()
	for parity := 1; parity <= 64; parity++ {
		for _, length := range lengthsOfData(parity) {
			for _, data := range []string{randomString(r, length), strings.Repeat("\xff", length), strings.Repeat("\x00", max(0, length-1)) + strings.Repeat("\x01", min(1, length))} {
				w := encoded(t, data, parity)
				if !strings.HasPrefix(w, data) || !otherIsCodeword(w, parity) || !IsCodeword(w, parity) {
					t.Errorf("Encode of %q, %d = %q", data, parity, w)
				}
			}
		}
	}
}

func TestEncodeReturnsTheOnlyCodeWord(t *testing.T) {
	for _, data := range []string{"", "\x00", "\x01", "\xc3", "\x00\x80", "\x02\xff", "ab"} {
		for x := range 256 {
			w := data + string([]byte{byte(x)})
			if IsCodeword(w, 1) != (w == encoded(t, data, 1)) {
				t.Errorf("IsCodeword of %q, 1 = %t, and Encode = %q", w, IsCodeword(w, 1), encoded(t, data, 1))
			}
		}
		want := encoded(t, data, 2)
		for x := range 1 << 16 {
			w := data + string([]byte{byte(x >> 8), byte(x)})
			if IsCodeword(w, 2) != (w == want) {
				t.Errorf("IsCodeword of %q, 2 = %t, and Encode = %q", w, IsCodeword(w, 2), want)
			}
		}
	}
}

func checkNotEncoded(t *testing.T, data string, parity int, want api.Errno) {
	t.Helper()
	if w, e := Encode(data, parity); w != "" || e != want {
		t.Errorf("Encode of %d bytes, %d = %q, %d, want nothing, %d", len(data), parity, w, e, want)
	}
}

func TestEncodeOfWrongParity(t *testing.T) {
	for _, parity := range wrongParities {
		for _, length := range []int{0, 1, 190, 191, 255, 256, 300, 1 << 20} {
			// Too many bytes are the later one of the two errors.
			checkNotEncoded(t, strings.Repeat("x", length), parity, api.ErrRange)
		}
	}
}

func TestEncodeOfTooManyBytes(t *testing.T) {
	for parity := 1; parity <= 64; parity++ {
		encoded(t, strings.Repeat("\x00", 255-parity), parity)
		for _, length := range []int{256 - parity, 257 - parity, 255, 256, 511, 512, 1 << 16, 1 << 20} {
			checkNotEncoded(t, strings.Repeat("x", length), parity, api.ErrLimit)
			checkNotEncoded(t, strings.Repeat("\x00", length), parity, api.ErrLimit)
		}
	}
}

// P7.1: Syndromes.

func TestSyndromesExamples(t *testing.T) {
	for _, c := range []struct {
		word string
		want []byte
	}{
		{"\x01\x03\x02", []byte{0, 0}}, {"\x01\x03\x03", []byte{1, 1}}, {"\x01\x02\x02", []byte{1, 2}}, {"\x00\x03\x02", []byte{1, 4}}, {"\x00\x00", []byte{0, 0}},
		{"\x05\x00", []byte{5, 10}}, {"\x00\x05", []byte{5, 5}}, {"\x05\x05", []byte{0, 15}}, {"\x80\x00", []byte{128, 29}}, {"\x07", []byte{7}}, {"\x07\x07", []byte{0}}, {"abc", []byte{96}},
		{"\x01\x00\x00\x00\x00\x00\x00\x00\x00", []byte{1, 29, 76}}, {"\x01\x00\x00", []byte{1, 4, 16}}, {"\x00\x00\x01", []byte{1, 1, 1}},
	} {
		parity := len(c.want)
		if s, e := Syndromes(c.word, parity); !bytes.Equal(s, c.want) || e != api.OK {
			t.Errorf("Syndromes of %q, %d = %v, %d, want %v, 0", c.word, parity, s, e, c.want)
		}
	}
}

func TestSyndromes(t *testing.T) {
	r := random()
	for parity := 1; parity <= 64; parity++ {
		for _, length := range append(lengthsOfData(parity), 64-parity) {
			word := randomString(r, length+parity)
			want := otherSyndromes(word, parity)
			if s := syndromes(t, word, parity); !bytes.Equal(s, want) {
				t.Errorf("Syndromes of %q, %d = %v, want %v", word, parity, s, want)
			}
		}
	}
}

func TestSyndromesOfWordsWithOneByte(t *testing.T) {
	for at := range 255 {
		for _, value := range []byte{1, 2, 0x80, 0xff} {
			word := make([]byte, 255)
			word[at] = value
			s := syndromes(t, string(word), 64)
			for i := range 64 {
				if want := gf256.Mul(value, powers[i*(254-at)%255]); s[i] != want {
					t.Errorf("syndrome %d of %d at %d is %d, want %d", i, value, at, s[i], want)
				}
			}
		}
	}
}

func checkNoSyndromes(t *testing.T, word string, parity int, want api.Errno) {
	t.Helper()
	if s, e := Syndromes(word, parity); len(s) != 0 || e != want {
		t.Errorf("Syndromes of %d bytes, %d = %v, %d, want nothing, %d", len(word), parity, s, e, want)
	}
	if IsCodeword(word, parity) {
		t.Errorf("%d bytes are a code word with %d parity symbols", len(word), parity)
	}
}

func TestSyndromesOfWrongParity(t *testing.T) {
	for _, parity := range wrongParities {
		for _, length := range []int{0, 1, 2, 63, 64, 65, 255, 256, 300, 1 << 20} {
			// A word that is too short or too long is the later one of the two errors.
			checkNoSyndromes(t, strings.Repeat("\x00", length), parity, api.ErrRange)
		}
	}
}

func TestSyndromesOfShortWords(t *testing.T) {
	for parity := 1; parity <= 64; parity++ {
		for length := range parity {
			checkNoSyndromes(t, strings.Repeat("\x00", length), parity, api.ErrShort)
			checkNoSyndromes(t, strings.Repeat("x", length), parity, api.ErrShort)
		}
		syndromes(t, strings.Repeat("x", parity), parity)
	}
}

func TestSyndromesOfLongWords(t *testing.T) {
	for parity := 1; parity <= 64; parity++ {
		syndromes(t, strings.Repeat("x", 255), parity)
		for _, length := range []int{256, 257, 511, 512, 1 << 16, 1 << 20} {
			checkNoSyndromes(t, strings.Repeat("\x00", length), parity, api.ErrLimit)
			checkNoSyndromes(t, strings.Repeat("x", length), parity, api.ErrLimit)
		}
	}
}

// P7.1: IsCodeword.

func TestIsCodewordExamples(t *testing.T) {
	for _, c := range []struct {
		word   string
		parity int
		want   bool
	}{
		{"\x01\x03\x02", 2, true}, {"\x01\x03\x02", 1, true}, {"\x01\x03\x02", 3, false}, {"\x01\x03\x03", 2, false}, {"\x02\x03\x01", 2, false}, {"\x07\x07", 1, true}, {"\x07\x06", 1, false},
		{"\x00", 1, true}, {"\x01", 1, false}, {"\x00\x00", 2, true}, {"\x00\x01", 2, false}, {"\x01\x00", 2, false}, {"\x01\x01", 2, false}, {"", 1, false}, {"", 0, false}, {"", -1, false},
		// In the first word only the first syndrome is zero, in the second only the second one is.
		{"\x01\x01\x00", 2, false}, {"\x01\x02", 2, false}, {strings.Repeat("\x00", 255), 64, true}, {strings.Repeat("\x00", 64), 64, true}, {strings.Repeat("\x00", 63), 64, false},
	} {
		if got := IsCodeword(c.word, c.parity); got != c.want {
			t.Errorf("IsCodeword of %q, %d = %t", c.word, c.parity, got)
		}
	}
}

// A word of as many bytes as there are parity symbols has no data, so only the zero word is a code word.
func TestIsCodewordOfWordsWithoutData(t *testing.T) {
	for x := range 1 << 16 {
		if IsCodeword(string([]byte{byte(x >> 8), byte(x)}), 2) != (x == 0) {
			t.Errorf("IsCodeword of %#x, 2 = %t", x, x != 0)
		}
	}
	r := random()
	for parity := 1; parity <= 64; parity++ {
		for count := 1; count <= parity; count++ {
			if w := changed(r, strings.Repeat("\x00", parity), count); IsCodeword(w, parity) {
				t.Errorf("%q is a code word", w)
			}
		}
	}
}

// A code word with some parity symbols is one with fewer, because it has more roots, but in general not one with more.
func TestIsCodewordWithAnotherParity(t *testing.T) {
	r := random()
	for parity := 1; parity <= 64; parity++ {
		w := encoded(t, "\x01"+randomString(r, 60), parity)
		for other := 1; other <= min(64, len(w)); other++ {
			if got, want := IsCodeword(w, other), otherIsCodeword(w, other); got != want || other <= parity && !got {
				t.Errorf("IsCodeword of %q, %d = %t, want %t", w, other, got, want)
			}
		}
	}
}

// With only one syndrome that is not zero, a word is no code word, whichever it is.
func TestIsCodewordLooksAtEverySyndrome(t *testing.T) {
	for parity := 1; parity <= 64; parity++ {
		for only := range parity {
			word := product(parity, only)
			s := syndromes(t, string(word), parity)
			if bytes.Count(s, []byte{0}) != parity-1 || s[only] == 0 || IsCodeword(string(word), parity) {
				t.Errorf("Syndromes of %v, %d = %v, and IsCodeword = %t", word, parity, s, IsCodeword(string(word), parity))
			}
		}
	}
}

// P7.2: linearity.

func TestTheSumOfCodeWordsIsACodeWord(t *testing.T) {
	r := random()
	for parity := 1; parity <= 64; parity++ {
		for _, length := range lengthsOfData(parity) {
			a, b := randomString(r, length), randomString(r, length)
			sum := xor(encoded(t, a, parity), encoded(t, b, parity))
			if !IsCodeword(sum, parity) || sum != encoded(t, xor(a, b), parity) {
				t.Errorf("the sum of the code words of %q and %q with %d parity symbols is %q", a, b, parity, sum)
			}
		}
	}
}

func TestTheSumOfACodeWordAndAnotherWordIsNoCodeWord(t *testing.T) {
	r := random()
	for parity := 1; parity <= 64; parity++ {
		w := encoded(t, randomString(r, 50), parity)
		other := changed(r, strings.Repeat("\x00", len(w)), parity)
		if IsCodeword(xor(w, other), parity) {
			t.Errorf("the sum of %q and %q is a code word with %d parity symbols", w, other, parity)
		}
	}
}

func TestTheSyndromesOfASumAreTheSumOfTheSyndromes(t *testing.T) {
	r := random()
	for parity := 1; parity <= 64; parity++ {
		for _, length := range lengthsOfData(parity) {
			a, b := randomString(r, length+parity), randomString(r, length+parity)
			want := xor(string(syndromes(t, a, parity)), string(syndromes(t, b, parity)))
			if got := syndromes(t, xor(a, b), parity); string(got) != want {
				t.Errorf("the syndromes of the sum of %q and %q are %v, want %v", a, b, got, []byte(want))
			}
			// A code word has no influence on the syndromes.
			w := encoded(t, randomString(r, length), parity)
			if !bytes.Equal(syndromes(t, xor(a, w), parity), syndromes(t, a, parity)) {
				t.Errorf("the syndromes of the sum of %q and the code word %q differ from those of the first one", a, w)
			}
		}
	}
}

func TestMultiplesOfCodeWordsAreCodeWords(t *testing.T) {
	w := encoded(t, randomString(random(), 44), 8)
	for factor := range 256 {
		multiple := []byte(w)
		for i := range multiple {
			multiple[i] = gf256.Mul(byte(factor), multiple[i])
		}
		if !IsCodeword(string(multiple), 8) || string(multiple) != encoded(t, string(multiple[:44]), 8) {
			t.Errorf("%d times %q is %q", factor, w, multiple)
		}
	}
}

// P7.3: distance.

func TestCodeWordsOfTwoBytesOfDataAreFarFromZero(t *testing.T) {
	for _, parity := range []int{1, 2, 3, 8} {
		for x := 1; x < 1<<16; x++ {
			w := encoded(t, string([]byte{byte(x >> 8), byte(x)}), parity)
			if distance(w, strings.Repeat("\x00", len(w))) <= parity {
				t.Errorf("%q has too few bytes that are not zero", w)
			}
		}
	}
}

func TestDifferentCodeWordsAreFarApart(t *testing.T) {
	r := random()
	for parity := 1; parity <= 64; parity++ {
		for _, length := range lengthsOfData(parity) {
			a := randomString(r, length)
			for count := 1; count <= length; count = count*2 + 1 {
				v, w := encoded(t, a, parity), encoded(t, changed(r, a, count), parity)
				if distance(v, w) <= parity {
					t.Errorf("%q and %q with %d parity symbols differ in %d bytes", v, w, parity, distance(v, w))
				}
			}
		}
	}
}

func TestChangesYieldNoCodeWord(t *testing.T) {
	r := random()
	for parity := 1; parity <= 64; parity++ {
		for _, length := range lengthsOfData(parity) {
			w := encoded(t, randomString(r, length), parity)
			for count := 1; count <= parity; count++ {
				if c := changed(r, w, count); IsCodeword(c, parity) {
					t.Errorf("%q is the code word %q after changes of %d bytes", c, w, count)
				}
			}
		}
	}
}

func TestEveryChangeOfOneByteYieldsNoCodeWord(t *testing.T) {
	w := []byte(encoded(t, randomString(random(), 254), 1))
	for i := range w {
		for change := 1; change < 256; change++ {
			w[i] ^= byte(change)
			if IsCodeword(string(w), 1) {
				t.Errorf("byte %d may be changed by %d", i, change)
			}
			w[i] ^= byte(change)
		}
	}
}

func TestChangesOfAnyTwoBytesYieldNoCodeWord(t *testing.T) {
	r := random()
	w := []byte(encoded(t, randomString(r, 253), 2))
	for i := range w {
		for j := range i {
			first, second := byte(1+r.IntN(255)), byte(1+r.IntN(255))
			// Equal changes keep the first syndrome.
			for _, c := range [][2]byte{{first, second}, {first, first}} {
				w[i] ^= c[0]
				w[j] ^= c[1]
				if IsCodeword(string(w), 2) {
					t.Errorf("bytes %d and %d may be changed by %v", i, j, c)
				}
				w[i] ^= c[0]
				w[j] ^= c[1]
			}
		}
	}
}

// independent reports whether no sum of multiples of the rows is zero, by Gauss's elimination.
func independent(rows [][]byte) bool {
	for len(rows) > 0 {
		pivot := -1
		for i, c := range rows[0] {
			if c != 0 {
				pivot = i
			}
		}
		if pivot < 0 {
			return false
		}
		for _, row := range rows[1:] {
			factor, _ := gf256.Div(row[pivot], rows[0][pivot])
			for i := range row {
				row[i] ^= gf256.Mul(factor, rows[0][i])
			}
		}
		rows = rows[1:]
	}
	return true
}

// A code word that is not zero only at some positions is a sum of multiples of the words with a single 1 at one of them.
func TestNoCodeWordLiesInAsManyPositionsAsThereAreParitySymbols(t *testing.T) {
	r := random()
	for parity := 1; parity <= 64; parity++ {
		for _, length := range []int{parity, parity + 1, 128, 255} {
			var rows [][]byte
			for _, at := range r.Perm(length)[:parity] {
				word := make([]byte, length)
				word[at] = 1
				rows = append(rows, syndromes(t, string(word), parity))
			}
			if !independent(rows) {
				t.Errorf("there is a code word with %d parity symbols and at most as many bytes that are not zero", parity)
			}
		}
	}
}

// P7.4: shortening.

func TestLeadingZerosDoNotChangeTheParitySymbols(t *testing.T) {
	r := random()
	for parity := 1; parity <= 64; parity++ {
		for _, length := range lengthsOfData(parity) {
			data := randomString(r, length)
			want := encoded(t, data, parity)[length:]
			room := 255 - parity - length
			for _, zeros := range []int{0, 1, 2, 3, 63, 64, 65, room - 1, room} {
				if zeros < 0 || zeros > room {
					continue
				}
				w := encoded(t, strings.Repeat("\x00", zeros)+data, parity)
				if w[zeros+length:] != want {
					t.Errorf("Encode of %d zeros and %q, %d = %q, want the parity symbols %q", zeros, data, parity, w, want)
				}
			}
		}
	}
}

func TestLeadingZerosDoNotChangeTheSyndromes(t *testing.T) {
	r := random()
	for parity := 1; parity <= 64; parity++ {
		word := randomString(r, parity+10)
		want := syndromes(t, word, parity)
		for zeros := range 255 - len(word) + 1 {
			if got := syndromes(t, strings.Repeat("\x00", zeros)+word, parity); !bytes.Equal(got, want) {
				t.Errorf("Syndromes of %d zeros and %q, %d = %v, want %v", zeros, word, parity, got, want)
			}
		}
	}
}

func TestZerosAtTheEndOfTheDataMatter(t *testing.T) {
	for parity := 1; parity <= 64; parity++ {
		for zeros := 1; zeros < 100; zeros++ {
			w := encoded(t, "\x01"+strings.Repeat("\x00", zeros), parity)
			if !otherIsCodeword(w, parity) || parity > 1 && w[1+zeros:] == encoded(t, "\x01", parity)[1:] {
				t.Errorf("Encode of 1 and %d zeros, %d = %q", zeros, parity, w)
			}
		}
	}
}
