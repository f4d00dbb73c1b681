package rsdecode

import (
	"math"
	"math/rand/v2"
	"slices"
	"strings"
	"testing"

	"stele/api"
	"stele/reedsolomon"
)

func random() *rand.Rand {
	return rand.New(rand.NewPCG(8, 256))
}

func randomString(r *rand.Rand, length int) string {
	s := make([]byte, length)
	for i := range s {
		s[i] = byte(r.Uint32())
	}
	return string(s)
}

// changedAt returns s with changes of the bytes at the given indices.
func changedAt(r *rand.Rand, s string, indices []int) string {
	b := []byte(s)
	for _, i := range indices {
		b[i] ^= byte(1 + r.IntN(255))
	}
	return string(b)
}

// overwrittenAt returns s with any bytes at the given indices, the same ones as before among them.
func overwrittenAt(r *rand.Rand, s string, indices []int) string {
	b := []byte(s)
	for _, i := range indices {
		b[i] = byte(r.IntN(256))
	}
	return string(b)
}

// distance returns the number of bytes in which two strings of equal length differ.
func distance(a, b string) int {
	n := 0
	for i := range len(a) {
		if a[i] != b[i] {
			n++
		}
	}
	return n
}

func encoded(t *testing.T, data string, parity int) string {
	t.Helper()
	w, e := reedsolomon.Encode(data, parity)
	if e != api.OK {
		t.Fatalf("Encode of %q, %d: error %d", data, parity, e)
	}
	return w
}

// randomCodeWord returns a code word of that length.
func randomCodeWord(t *testing.T, r *rand.Rand, length, parity int) string {
	t.Helper()
	return encoded(t, randomString(r, length-parity), parity)
}

// check checks that a word is decoded to a code word, and that the erasures stay as they are.
func check(t *testing.T, word string, parity int, erasures []int, want string) {
	t.Helper()
	before := slices.Clone(erasures)
	got, n, e := Decode(word, parity, erasures)
	if got != want || n != distance(word, want) || e != api.OK {
		t.Errorf("Decode of %q, %d, %v = %q, %d, %d, want %q, %d, 0", word, parity, erasures, got, n, e, want, distance(word, want))
	}
	if !slices.Equal(before, erasures) {
		t.Errorf("Decode changes the erasures %v to %v", before, erasures)
	}
}

// checkNone checks that a word is not decoded.
func checkNone(t *testing.T, word string, parity int, erasures []int, want api.Errno) {
	t.Helper()
	got, n, e := Decode(word, parity, erasures)
	if got != "" || n != 0 || e != want {
		t.Errorf("Decode of %d bytes %.300q, %d, %d erasures %.20v = %q, %d, %d, want nothing, %d", len(word), word, parity, len(erasures), erasures, got, n, e, want)
	}
}

// isWithinRadius reports whether a word differs from a code word as little as the chapter says. The erasures are distinct.
func isWithinRadius(word, codeWord string, parity int, erasures []int) bool {
	errors := 0
	for i := range len(word) {
		if word[i] != codeWord[i] && !slices.Contains(erasures, i) {
			errors++
		}
	}
	return 2*errors+len(erasures) <= parity
}

// codeWords returns all code words with one byte of data.
func codeWords(t *testing.T, parity int) []string {
	t.Helper()
	var l []string
	for x := range 256 {
		l = append(l, encoded(t, string([]byte{byte(x)}), parity))
	}
	return l
}

// checkBySearch checks Decode of a word against a list of all code words. The erasures are distinct.
func checkBySearch(t *testing.T, word string, parity int, erasures []int, all []string) {
	t.Helper()
	for _, c := range all {
		if isWithinRadius(word, c, parity, erasures) {
			check(t, word, parity, erasures, c)
			return
		}
	}
	checkNone(t, word, parity, erasures, api.ErrDecode)
}

// subset returns the indices of the bits of a number that are 1.
func subset(bits int) []int {
	var l []int
	for i := range 16 {
		if bits>>i&1 == 1 {
			l = append(l, i)
		}
	}
	return l
}

// lengths returns some lengths of words, the least and the greatest among them.
func lengths(parity int) []int {
	return []int{parity, parity + 1, parity + 44, 255}
}

var wrongParities = []int{0, -1, -2, -64, -65, -255, 65, 66, 128, 254, 255, 256, 257, 1 << 32, 1<<32 + 2, math.MinInt, math.MinInt + 1, math.MaxInt, math.MaxInt - 254}

// P8.1: Decode within the radius.

func TestDecodeExamples(t *testing.T) {
	for _, c := range []struct {
		word     string
		parity   int
		erasures []int
		want     string
		n        int
	}{
		{"\x01\x03\x02", 2, nil, "\x01\x03\x02", 0}, {"\x00\x03\x02", 2, nil, "\x01\x03\x02", 1}, {"\x01\xff\x02", 2, nil, "\x01\x03\x02", 1}, {"\x01\x03\x00", 2, nil, "\x01\x03\x02", 1},
		{"\x01\x00\x00", 2, nil, "\x00\x00\x00", 1}, {"\x01\x00\x00", 2, []int{1, 2}, "\x01\x03\x02", 2}, {"\x01\x00\x02", 2, []int{1, 2}, "\x01\x03\x02", 1}, {"\x07\x08\x02", 2, []int{1, 0}, "\x01\x03\x02", 2},
		{"\x00\x03\x00", 2, []int{2, 0}, "\x01\x03\x02", 2}, {"\x01\x03\x02", 2, []int{0, 2}, "\x01\x03\x02", 0}, {"\x01\x03\x02", 2, []int{1}, "\x01\x03\x02", 0}, {"\x01\x09\x02", 2, []int{1}, "\x01\x03\x02", 1},
		// This is a code word with one parity symbol, too.
		{"\x01\x03\x02", 1, nil, "\x01\x03\x02", 0}, {"\x01\x03\x07", 1, []int{2}, "\x01\x03\x02", 1}, {"\x05\x03\x02", 1, []int{0}, "\x01\x03\x02", 1},
		{"\x07\x00", 1, []int{1}, "\x07\x07", 1}, {"\x07\x00", 1, []int{0}, "\x00\x00", 1}, {"\x07\x07", 1, nil, "\x07\x07", 0},
		// Other erasures lead to other code words.
		{"\x05\x05\x00\x00", 2, []int{2, 3}, "\x05\x05\x14\x14", 2}, {"\x05\x05\x00\x00", 2, []int{0, 1}, "\x00\x00\x00\x00", 2},
	} {
		got, n, e := Decode(c.word, c.parity, c.erasures)
		if got != c.want || n != c.n || e != api.OK {
			t.Errorf("Decode of %q, %d, %v = %q, %d, %d, want %q, %d, 0", c.word, c.parity, c.erasures, got, n, e, c.want, c.n)
		}
	}
}

func TestDecodeWithFourParitySymbols(t *testing.T) {
	r := random()
	want := encoded(t, "stele", 4)
	for _, c := range [][]int{{0, 1}, {0, 8}, {3, 5}, {7, 8}, {4}, {8}, nil} {
		check(t, changedAt(r, want, c), 4, nil, want)
	}
	for _, c := range [][]int{{0, 1, 2}, {8, 3, 4}, {5, 7, 6}, {8, 0, 4}} {
		check(t, changedAt(r, want, c), 4, c[1:], want)
		checkNone(t, changedAt(r, want, c), 4, c[2:], api.ErrDecode)
	}
	for _, c := range [][]int{{0, 1, 2}, {6, 7, 8}, {0, 4, 8}, {2, 3, 6}} {
		got, _, e := Decode(changedAt(r, want, c), 4, nil)
		if got == want || e == api.OK && !reedsolomon.IsCodeword(got, 4) {
			t.Errorf("changes at %v are corrected to %q", c, got)
		}
	}
}

// This is the text HELLO WORLD in a QR code of the smallest size, which has the same field and the same roots.
func TestDecodeQRCode(t *testing.T) {
	want := string([]byte{32, 91, 11, 120, 209, 114, 220, 77, 67, 64, 236, 17, 236, 17, 236, 17, 196, 35, 39, 119, 235, 215, 231, 226, 93, 23})
	r := random()
	for range 200 {
		p := r.Perm(len(want))
		check(t, changedAt(r, want, p[:5]), 10, nil, want)
		check(t, changedAt(r, want, p[:10]), 10, p[:10], want)
		check(t, changedAt(r, want, p[:7]), 10, p[:4], want)
	}
	check(t, strings.Repeat("\x00", 10)+want[10:], 10, []int{0, 1, 2, 3, 4, 5, 6, 7, 8, 9}, want)
	check(t, want[:16]+strings.Repeat("?", 10), 10, []int{16, 17, 18, 19, 20, 21, 22, 23, 24, 25}, want)
}

// Every word of two or three bytes is compared with every code word.
func TestDecodeOfAllShortWords(t *testing.T) {
	all := codeWords(t, 1)
	zero := []string{"\x00\x00"}
	for x := range 1 << 16 {
		word := string([]byte{byte(x >> 8), byte(x)})
		for bits := range 4 {
			checkBySearch(t, word, 1, subset(bits), all)
			checkBySearch(t, word, 2, subset(bits), zero)
		}
	}
	all = codeWords(t, 2)
	for x := range 1 << 16 {
		word := string([]byte{0x57, byte(x >> 8), byte(x)})
		checkBySearch(t, word, 2, nil, all)
		checkBySearch(t, word, 2, subset(x*5>>4&7), all)
	}
}

// One byte of data has 256 code words, all of which are compared with the word.
func TestDecodeIsASearchForTheNearestCodeWord(t *testing.T) {
	r := random()
	for parity := 1; parity <= 12; parity++ {
		all := codeWords(t, parity)
		for range 600 {
			p := r.Perm(parity + 1)
			word := changedAt(r, all[r.IntN(256)], p[:r.IntN(parity+2)])
			checkBySearch(t, word, parity, nil, all)
			checkBySearch(t, word, parity, r.Perm(parity + 1)[:r.IntN(parity+2)], all)
			// These erasures overlap with the changed bytes.
			checkBySearch(t, word, parity, p[:r.IntN(parity+2)], all)
		}
	}
}

// A word with as many bytes as parity symbols has no data, so zero is the only code word.
func TestDecodeOfWordsWithoutData(t *testing.T) {
	r := random()
	for parity := 1; parity <= 64; parity++ {
		zero := strings.Repeat("\x00", parity)
		for count := range parity + 1 {
			p := r.Perm(parity)
			word := changedAt(r, zero, p[:count])
			checkBySearch(t, word, parity, nil, []string{zero})
			checkBySearch(t, word, parity, p[:r.IntN(count+1)], []string{zero})
			checkBySearch(t, word, parity, p, []string{zero})
		}
	}
}

func TestOneErrorAtEveryIndex(t *testing.T) {
	r := random()
	for _, parity := range []int{2, 3, 8} {
		want := randomCodeWord(t, r, 255, parity)
		for i := range want {
			for _, change := range []byte{1, 2, 0x80, 0xff, byte(3 + r.IntN(125))} {
				word := []byte(want)
				word[i] ^= change
				check(t, string(word), parity, nil, want)
				check(t, string(word), parity, []int{i}, want)
			}
		}
	}
}

func TestEveryChangeOfOneByte(t *testing.T) {
	want := randomCodeWord(t, random(), 20, 2)
	for i := range want {
		for change := range 256 {
			word := []byte(want)
			word[i] ^= byte(change)
			check(t, string(word), 2, nil, want)
		}
	}
}

// With these lengths and parity symbols frames are protected.
func TestTwoErrorsAtEveryPairOfIndices(t *testing.T) {
	r := random()
	want := randomCodeWord(t, r, api.WordBytes, api.ParityBytes)
	narrow := randomCodeWord(t, r, api.WordBytes, 4)
	for i := range api.WordBytes {
		for j := range i {
			check(t, changedAt(r, want, []int{i, j}), api.ParityBytes, nil, want)
			check(t, changedAt(r, narrow, []int{i, j}), 4, nil, narrow)
			// Two equal changes leave the first syndrome zero.
			word := []byte(narrow)
			word[i] ^= 0x55
			word[j] ^= 0x55
			check(t, string(word), 4, nil, narrow)
		}
	}
}

// P8.1: Decode beyond the radius.

// If one error or erasure is too many, all other code words are too far away as well.
func TestOneErrorTooManyIsNotDecoded(t *testing.T) {
	r := random()
	for parity := 1; parity <= 64; parity++ {
		for _, length := range lengths(parity) {
			for s := (parity + 1) % 2; s <= parity; s += 2 {
				errors := (parity + 1 - s) / 2
				if errors+s > length {
					continue
				}
				p := r.Perm(length)
				word := changedAt(r, randomCodeWord(t, r, length, parity), p[:errors])
				checkNone(t, overwrittenAt(r, word, p[errors:errors+s]), parity, p[errors:errors+s], api.ErrDecode)
			}
		}
	}
}

// Whatever is decoded is a code word within the radius, and never one that is farther away.
func TestDecodeOfAnyWord(t *testing.T) {
	r := random()
	decoded := 0
	for range 6000 {
		parity := 1 + r.IntN(6)
		length := parity + r.IntN(60)
		word := randomString(r, length)
		erasures := r.Perm(length)[:r.IntN(parity+1)]
		got, n, e := Decode(word, parity, erasures)
		switch {
		case e == api.ErrDecode && got == "" && n == 0:
		case e == api.OK && len(got) == length && n == distance(word, got) && reedsolomon.IsCodeword(got, parity) && isWithinRadius(word, got, parity, erasures):
			decoded++
		default:
			t.Errorf("Decode of %q, %d, %v = %q, %d, %d", word, parity, erasures, got, n, e)
		}
	}
	if decoded == 0 || decoded == 6000 {
		t.Errorf("%d random words are decoded", decoded)
	}
}

// A code word of which so much is changed that it is nearer to another one is decoded to that one.
func TestDecodeReturnsTheNearerCodeWord(t *testing.T) {
	r := random()
	for parity := 1; parity <= 64; parity++ {
		first := randomCodeWord(t, r, 200, parity)
		// The least number of bytes in which code words differ is one more than the number of parity symbols.
		difference := strings.Repeat("\x00", 199-parity) + encoded(t, "\x01", parity)
		for count := range parity + 2 {
			word := []byte(first)
			other := []byte(first)
			for i := range other {
				other[i] ^= difference[i]
			}
			for _, i := range r.Perm(parity + 1)[:count] {
				word[199-parity+i] = other[199-parity+i]
			}
			switch {
			case 2*count <= parity:
				check(t, string(word), parity, nil, first)
			case 2*(parity+1-count) <= parity:
				check(t, string(word), parity, nil, string(other))
			default:
				checkNone(t, string(word), parity, nil, api.ErrDecode)
			}
		}
	}
}

// With zeros before it, a short word can be within the radius of a code word that is not zero there: that one is too long, and there is no other.
func TestErrorsBeforeTheFirstByteAreNotCorrected(t *testing.T) {
	r := random()
	for parity := 2; parity <= 64; parity++ {
		for _, before := range []int{1, 2, 100, 255 - parity} {
			outside := 1 + r.IntN(min(parity/2, before))
			data := changedAt(r, strings.Repeat("\x00", before), r.Perm(before)[:outside]) + randomString(r, 255-parity-before)
			word := encoded(t, data, parity)[before:]
			checkNone(t, word, parity, nil, api.ErrDecode)
			inside := min(parity/2-outside, len(word))
			checkNone(t, changedAt(r, word, r.Perm(len(word))[:inside]), parity, nil, api.ErrDecode)
			erased := r.Perm(len(word))[:min(parity-2*outside, len(word))]
			checkNone(t, overwrittenAt(r, word, erased), parity, erased, api.ErrDecode)
		}
	}
}

func TestMoreErasuresThanParitySymbolsAreNotDecoded(t *testing.T) {
	r := random()
	for parity := 1; parity <= 64; parity++ {
		for _, length := range lengths(parity)[1:] {
			c := randomCodeWord(t, r, length, parity)
			for _, s := range []int{parity + 1, min(parity+2, length), length} {
				erasures := r.Perm(length)[:s]
				checkNone(t, c, parity, erasures, api.ErrDecode)
				checkNone(t, changedAt(r, c, erasures), parity, erasures, api.ErrDecode)
			}
			check(t, c, parity, r.Perm(length)[:parity], c)
		}
	}
}

// P8.1: erasures.

func TestRepeatedErasuresCountOnce(t *testing.T) {
	r := random()
	for parity := 1; parity <= 64; parity++ {
		want := randomCodeWord(t, r, parity+30, parity)
		erasures := r.Perm(parity + 30)[:parity]
		word := changedAt(r, want, erasures)
		repeated := slices.Concat(erasures, erasures, erasures[:parity/2])
		check(t, word, parity, repeated, want)
		slices.Sort(repeated)
		check(t, word, parity, repeated, want)
		slices.Reverse(repeated)
		check(t, word, parity, repeated, want)
		p := r.Perm(parity + 30)
		check(t, changedAt(r, want, p[:1+(parity-1)/2]), parity, slices.Repeat(p[:1], 100), want)
	}
	want := randomCodeWord(t, r, 52, 8)
	check(t, changedAt(r, want, []int{0, 9, 51, 20}), 8, slices.Repeat([]int{51, 9}, 1<<16), want)
}

func TestTheOrderOfErasuresDoesNotMatter(t *testing.T) {
	r := random()
	want := encoded(t, "stele", 4)
	for range 100 {
		p := r.Perm(9)[:4]
		word := changedAt(r, want, p)
		for range 10 {
			r.Shuffle(4, func(i, j int) { p[i], p[j] = p[j], p[i] })
			check(t, word, 4, p, want)
		}
	}
}

func TestTheValuesOfErasedBytesDoNotMatter(t *testing.T) {
	want := encoded(t, "ab", 4)
	for x := range 256 {
		for _, y := range []int{0, 1, 0x80, 0xff, x} {
			word := []byte(want)
			word[1] = byte(x)
			word[4] = byte(y)
			word[2] ^= 0x10
			check(t, string(word), 4, []int{1, 4}, want)
		}
	}
}

// P8.1: invalid arguments.

func TestDecodeWithWrongParity(t *testing.T) {
	for _, parity := range wrongParities {
		for _, length := range []int{0, 1, 2, 63, 64, 65, 255, 256, 300} {
			checkNone(t, strings.Repeat("\x00", length), parity, nil, api.ErrArgument)
			checkNone(t, strings.Repeat("x", length), parity, []int{0}, api.ErrArgument)
		}
	}
}

func TestDecodeOfShortAndLongWords(t *testing.T) {
	for parity := 1; parity <= 64; parity++ {
		for length := range parity {
			checkNone(t, strings.Repeat("\x00", length), parity, nil, api.ErrArgument)
			checkNone(t, strings.Repeat("x", length), parity, []int{0}, api.ErrArgument)
		}
		for _, length := range []int{256, 257, 511, 512, 1 << 16, 1 << 20} {
			checkNone(t, strings.Repeat("\x00", length), parity, nil, api.ErrArgument)
			checkNone(t, strings.Repeat("x", length), parity, []int{255}, api.ErrArgument)
		}
		for _, length := range []int{parity, 255} {
			zero := strings.Repeat("\x00", length)
			check(t, zero, parity, nil, zero)
			check(t, zero, parity, []int{0, length - 1}[:min(2, parity)], zero)
		}
	}
}

func TestDecodeWithWrongErasures(t *testing.T) {
	r := random()
	for parity := 1; parity <= 64; parity++ {
		for _, length := range []int{parity, parity + 1, 254, 255} {
			c := randomCodeWord(t, r, length, parity)
			for _, wrong := range []int{length, length + 1, 255, 256, 256 + length - 1, 1 << 32, -1, -2, -length, -256, math.MaxInt, math.MinInt} {
				if wrong >= 0 && wrong < length {
					continue
				}
				checkNone(t, c, parity, []int{wrong}, api.ErrArgument)
				checkNone(t, c, parity, []int{0, wrong}, api.ErrArgument)
				checkNone(t, c, parity, []int{wrong, length - 1, 0}, api.ErrArgument)
			}
		}
	}
}

// The word could not be decoded either, but that error comes later.
func TestWrongErasuresComeFirst(t *testing.T) {
	word := "\x01\x00\x00\x00\x05\x05\x05"
	every := []int{0, 1, 2, 3, 4, 5, 6}
	checkNone(t, word, 2, nil, api.ErrDecode)
	checkNone(t, word, 2, every, api.ErrDecode)
	checkNone(t, word, 2, []int{7}, api.ErrArgument)
	checkNone(t, word, 2, append(every, 7), api.ErrArgument)
	checkNone(t, word, 2, append([]int{-1}, every...), api.ErrArgument)
}

// P8.2: Radius.

func TestRadius(t *testing.T) {
	for parity := -3; parity <= 70; parity++ {
		for errors := -3; errors <= 70; errors++ {
			for erasures := -3; erasures <= 70; erasures++ {
				want := parity >= 1 && parity <= 64 && errors >= 0 && erasures >= 0 && 2*errors+erasures <= parity
				if got := Radius(parity, errors, erasures); got != want {
					t.Errorf("Radius of %d, %d, %d = %t", parity, errors, erasures, got)
				}
			}
		}
	}
}

func TestRadiusOfGreatNumbers(t *testing.T) {
	great := []int{1 << 31, 1<<31 - 1, 1 << 32, 1 << 62, 1<<62 + 1, 1<<62 - 1, 3 << 61, math.MaxInt, math.MaxInt - 1, -(1 << 31), -(1 << 62), -(1 << 62) - 1, math.MinInt, math.MinInt + 1, math.MinInt + 2}
	for _, a := range great {
		for _, b := range append(great, -2, -1, 0, 1, 2, 64) {
			for _, c := range [][3]int{{64, a, b}, {64, b, a}, {1, a, b}, {1, b, a}, {a, b, 0}, {a, 0, b}, {a, b, 1}, {b, a, a}} {
				if Radius(c[0], c[1], c[2]) {
					t.Errorf("Radius of %v = true", c)
				}
			}
		}
	}
	for _, parity := range wrongParities {
		if Radius(parity, 0, 0) {
			t.Errorf("Radius of %d, 0, 0 = true", parity)
		}
	}
}

// P8.3: Locate.

func TestLocateExamples(t *testing.T) {
	for _, c := range []struct {
		a, b string
		want []int
	}{
		{"", "", nil}, {"a", "a", nil}, {"a", "b", []int{0}}, {"abc", "abd", []int{2}}, {"abc", "xby", []int{0, 2}}, {"abc", "cab", []int{0, 1, 2}}, {"\x00", "\x80", []int{0}},
		// Bytes are compared, not characters, and no bytes are equal because they are no characters.
		{"\xc3\xa4b", "\xc3\xa5b", []int{1}}, {"\xff\xfe", "\xfe\xff", []int{0, 1}}, {"\x80x", "\x81x", []int{0}}, {"\x00\x00", "\x00\x01", []int{1}},
	} {
		for _, pair := range [][2]string{{c.a, c.b}, {c.b, c.a}} {
			if l, e := Locate(pair[0], pair[1]); !slices.Equal(l, c.want) || e != api.OK {
				t.Errorf("Locate of %q, %q = %v, %d, want %v, 0", pair[0], pair[1], l, e, c.want)
			}
		}
	}
}

func TestLocate(t *testing.T) {
	r := random()
	for _, length := range []int{1, 2, 52, 255, 256, 257, 1000, 70000} {
		for range 20 {
			a := randomString(r, length)
			want := r.Perm(length)[:r.IntN(length+1)]
			b := changedAt(r, a, want)
			slices.Sort(want)
			if l, e := Locate(a, b); !slices.Equal(l, want) || e != api.OK {
				t.Errorf("Locate of %d bytes returns %d indices, error %d, want %d indices", length, len(l), e, len(want))
			}
			if l, e := Locate(a, a); len(l) != 0 || e != api.OK {
				t.Errorf("Locate of %d equal bytes = %v, %d", length, l, e)
			}
		}
	}
}

func TestLocateInStringsOfDifferentLengths(t *testing.T) {
	for _, c := range [][2]string{{"", "a"}, {"ab", "abc"}, {"abc", "xyzw"}, {"a", "\x00a"}, {"a", "a\x00"}, {strings.Repeat("a", 255), strings.Repeat("a", 256)}, {"", strings.Repeat("x", 1<<20)}} {
		for _, pair := range [][2]string{{c[0], c[1]}, {c[1], c[0]}} {
			if l, e := Locate(pair[0], pair[1]); len(l) != 0 || e != api.ErrArgument {
				t.Errorf("Locate of %d and %d bytes = %v, %d, want nothing, 1", len(pair[0]), len(pair[1]), l, e)
			}
		}
	}
}

func TestTheResultOfLocateIsNewMemory(t *testing.T) {
	for range 2 {
		l, _ := Locate("abcd", "xbyd")
		if !slices.Equal(l, []int{0, 2}) {
			t.Errorf("Locate = %v", l)
		}
		for i := range l {
			l[i] = -1
		}
	}
}

func TestLocateReturnsWhatDecodeCounts(t *testing.T) {
	r := random()
	for range 300 {
		c := randomCodeWord(t, r, 52, 8)
		p := r.Perm(52)
		word := overwrittenAt(r, changedAt(r, c, p[:2]), p[2:6])
		got, n, e := Decode(word, 8, p[2:6])
		l, _ := Locate(word, got)
		if n != len(l) || got != c || e != api.OK {
			t.Errorf("Decode of %q, 8, %v = %q, %d, %d", word, p[2:6], got, n, e)
		}
	}
}

// P8.4: what is restored.

func TestErrorsAndErasuresUpToTheRadiusAreCorrected(t *testing.T) {
	r := random()
	for parity := 1; parity <= 64; parity++ {
		for _, length := range []int{parity, parity + 1, 255} {
			for s := range parity + 1 {
				want := randomCodeWord(t, r, length, parity)
				errors := (parity - s) / 2
				p := r.Perm(length)
				erasures := p[errors : errors+s]
				check(t, overwrittenAt(r, changedAt(r, want, p[:errors]), erasures), parity, erasures, want)
			}
		}
	}
}

func TestFewErrorsAndErasuresAreCorrected(t *testing.T) {
	r := random()
	for parity := 1; parity <= 64; parity++ {
		for _, length := range lengths(parity) {
			s := r.IntN(parity + 1)
			errors := r.IntN((parity-s)/2 + 1)
			p := r.Perm(length)
			want := randomCodeWord(t, r, length, parity)
			erasures := p[errors : errors+s]
			check(t, changedAt(r, want, p[:errors+s]), parity, erasures, want)
			check(t, changedAt(r, want, p[:errors]), parity, erasures, want)
		}
	}
}

func TestEveryCombinationInAFrame(t *testing.T) {
	r := random()
	for errors := range 5 {
		for s := range 9 - 2*errors {
			for range 50 {
				want := randomCodeWord(t, r, api.WordBytes, api.ParityBytes)
				p := r.Perm(api.WordBytes)
				erasures := p[errors : errors+s]
				check(t, overwrittenAt(r, changedAt(r, want, p[:errors]), erasures), api.ParityBytes, erasures, want)
			}
		}
	}
}

// Bursts lie in the data, in the parity symbols, and across the border between them.
func TestBursts(t *testing.T) {
	r := random()
	for _, parity := range []int{1, 2, 7, 8, 64} {
		want := randomCodeWord(t, r, 100, parity)
		for begin := range 100 - parity + 1 {
			var burst []int
			for i := range parity {
				burst = append(burst, begin+i)
			}
			check(t, changedAt(r, want, burst), parity, burst, want)
			check(t, changedAt(r, want, burst[:parity/2]), parity, nil, want)
		}
	}
}

func TestACodeWordStaysUnchanged(t *testing.T) {
	r := random()
	for parity := 1; parity <= 64; parity++ {
		for _, length := range lengths(parity) {
			c := randomCodeWord(t, r, length, parity)
			check(t, c, parity, nil, c)
			check(t, c, parity, r.Perm(length)[:r.IntN(parity+1)], c)
			zero := strings.Repeat("\x00", length)
			check(t, zero, parity, r.Perm(length)[:r.IntN(parity+1)], zero)
		}
	}
}

// What is decoded once is a code word, which stays as it is.
func TestDecodingTwice(t *testing.T) {
	r := random()
	for parity := 1; parity <= 64; parity++ {
		c, _, e := Decode(changedAt(r, randomCodeWord(t, r, 200, parity), r.Perm(200)[:parity/2]), parity, nil)
		if e != api.OK {
			t.Errorf("%d errors in a word with %d parity symbols: error %d", parity/2, parity, e)
		}
		check(t, c, parity, nil, c)
	}
}

func TestErroneousBytesMayBeDeclaredErasures(t *testing.T) {
	r := random()
	for parity := 2; parity <= 64; parity++ {
		want := randomCodeWord(t, r, parity+40, parity)
		errors := parity / 2
		p := r.Perm(parity + 40)[:errors]
		word := changedAt(r, want, p)
		// With every declaration an error that counts twice becomes an erasure that counts once.
		for declared := range errors + 1 {
			check(t, word, parity, p[:declared], want)
			check(t, word, parity, p[errors-declared:], want)
		}
	}
}
