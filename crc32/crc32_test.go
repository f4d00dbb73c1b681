package crc32

import (
	reflected "hash/crc32"
	"math"
	"math/bits"
	"math/rand/v2"
	"slices"
	"strconv"
	"strings"
	"testing"
)

// period is the number of zero bytes that restore every register, because the polynomial is primitive.
const period = 1<<32 - 1

// otherUpdate computes Update from the reflected checksum of Go's library, which complements its register before and after.
func otherUpdate(crc uint32, s string) uint32 {
	reversed := make([]byte, len(s))
	for i := range reversed {
		reversed[i] = bits.Reverse8(s[i])
	}
	return bits.Reverse32(^reflected.Update(^bits.Reverse32(crc), reflected.IEEETable, reversed))
}

func otherSum(s string) uint32 {
	return otherUpdate(0xFFFFFFFF, s)
}

// words returns all strings over the alphabet with at most max bytes.
func words(alphabet string, max int) []string {
	all := []string{""}
	last := all
	for range max {
		var next []string
		for _, w := range last {
			for i := range len(alphabet) {
				next = append(next, w+alphabet[i:i+1])
			}
		}
		all = append(all, next...)
		last = next
	}
	return all
}

func zeros(n int) string {
	return strings.Repeat("\x00", n)
}

// random returns the same numbers in every run.
func random() *rand.Rand {
	return rand.New(rand.NewPCG(3, 32))
}

func randomString(r *rand.Rand, length int) string {
	b := make([]byte, length)
	for i := range b {
		b[i] = byte(r.Uint32())
	}
	return string(b)
}

// contents returns strings of many kinds and lengths.
func contents() []string {
	l := words("\x00\x01\x80\xff", 3)
	for i := range 256 {
		b := string([]byte{byte(i)})
		l = append(l, b, b+"\x00", "\x00"+b)
	}
	r := random()
	for length := range 70 {
		l = append(l, randomString(r, length), zeros(length), strings.Repeat("\xff", length))
	}
	return append(l, "abc", "123456789", "é", "日本", "\xff\xfe", "\xed\xa0\x80", "\u0130\u0131", "\x04\xc1\x1d\xb7", "\xff\xff\xff\xff",
		randomString(r, 44), randomString(r, 1000), randomString(r, 99999), zeros(99999), strings.Repeat("é", 500))
}

// registers returns the extreme registers, those with one bit or without one, and others.
func registers() []uint32 {
	l := []uint32{0, 0xFFFFFFFF, 0x04C11DB7, 0x0376E6E7, 0x01000000, 0x12345678, 0xDEADBEEF, 0x80000001, 0x7FFFFFFF, 0xFFFF0000}
	for bit := range 32 {
		l = append(l, 1<<bit, ^uint32(1<<bit))
	}
	r := random()
	for range 20 {
		l = append(l, r.Uint32())
	}
	return l
}

func check(t *testing.T, what string, got, want uint32) {
	t.Helper()
	if got != want {
		t.Errorf("%s = %08x, want %08x", what, got, want)
	}
}

// P3.1: Update.

func TestUpdateExamples(t *testing.T) {
	for _, c := range []struct {
		crc  uint32
		s    string
		want uint32
	}{
		{0, "", 0}, {0xFFFFFFFF, "", 0xFFFFFFFF}, {0x12345678, "", 0x12345678},
		{0, "\x00", 0}, {0, zeros(1000), 0},
		{0, "\x01", 0x04C11DB7}, {0, "\x02", 0x09823B6E}, {0, "\x80", 0x690CE0EE},
		{0x01000000, "\x01", 0}, {0xFF000000, "\xff", 0}, {0x12345678, "\x12\x34\x56\x78", 0},
		{0x00000001, "\x00", 0x00000100}, {0x00ABCDEF, "\x00", 0xABCDEF00}, {0x00ABCDEF, "\x01", 0xABCDEF00 ^ 0x04C11DB7},
		{0x01000000, "\x00", 0x04C11DB7}, {0x80000000, "\x00", 0x690CE0EE},
		{0xFFFFFFFF, "123456789", 0x0376E6E7},
	} {
		check(t, "Update of "+strconv.Quote(c.s), Update(c.crc, c.s), c.want)
	}
}

func TestUpdateOfEveryByte(t *testing.T) {
	for _, crc := range registers() {
		for i := range 256 {
			s := string([]byte{byte(i)})
			check(t, "Update of one byte", Update(crc, s), otherUpdate(crc, s))
		}
	}
}

func TestUpdateOfManyStrings(t *testing.T) {
	for _, crc := range []uint32{0, 0xFFFFFFFF, 1, 0x80000000, 0xDEADBEEF} {
		for _, s := range contents() {
			check(t, "Update", Update(crc, s), otherUpdate(crc, s))
		}
	}
}

func TestUpdateContinuesAtEveryPlace(t *testing.T) {
	for _, crc := range registers() {
		for _, s := range []string{"123456789", "日本", "\x00\x01\x80\xff", randomString(random(), 50)} {
			for at := range len(s) + 1 {
				check(t, "Update in two steps", Update(Update(crc, s[:at]), s[at:]), otherUpdate(crc, s))
			}
		}
	}
}

// P3.1: Sum.

func TestSumExamples(t *testing.T) {
	check(t, "Sum of 123456789", Sum("123456789"), 0x0376E6E7)
	check(t, "Sum of the empty string", Sum(""), 0xFFFFFFFF)
	check(t, "Sum of no part", Sum(), 0xFFFFFFFF)
	check(t, "Sum of an empty list", Sum([]string{}...), 0xFFFFFFFF)
	check(t, "Sum of empty parts", Sum("", "", ""), 0xFFFFFFFF)
	check(t, "Sum of FFFFFFFF", Sum("\xff\xff\xff\xff"), 0)
	check(t, "Sum of parts", Sum("12345", "", "6789"), 0x0376E6E7)
	check(t, "Sum of bytes", Sum("1", "2", "3", "4", "5", "6", "7", "8", "9"), 0x0376E6E7)
	check(t, "Sum in another order", Sum("6789", "12345"), otherSum("678912345"))
}

func TestSumOfManyStrings(t *testing.T) {
	for _, s := range contents() {
		check(t, "Sum", Sum(s), otherSum(s))
	}
}

func TestSumOfPartsDividedAtEveryPlace(t *testing.T) {
	for _, s := range []string{"", "a", "123456789", "日本語", zeros(12), "\xff\xff\xff\xff\x00", randomString(random(), 44)} {
		want := otherSum(s)
		for i := range len(s) + 1 {
			check(t, "Sum of two parts", Sum(s[:i], s[i:]), want)
			check(t, "Sum of two parts with empty ones", Sum("", s[:i], "", "", s[i:], ""), want)
			for j := i; j <= len(s); j++ {
				check(t, "Sum of three parts", Sum(s[:i], s[i:j], s[j:]), want)
			}
		}
		check(t, "Sum of bytes", Sum(strings.Split(s, "")...), want)
	}
}

func TestSumOfManyParts(t *testing.T) {
	l := contents()
	before := slices.Clone(l)
	check(t, "Sum of many parts", Sum(l...), otherSum(strings.Join(l, "")))
	if !slices.Equal(l, before) {
		t.Error("Sum changed its arguments")
	}
}

// P3.1: Bytes.

func TestBytes(t *testing.T) {
	for crc, want := range map[uint32]string{
		0: "\x00\x00\x00\x00", 0xFFFFFFFF: "\xff\xff\xff\xff", 0x0376E6E7: "\x03\x76\xe6\xe7", 0x31323334: "1234",
		1: "\x00\x00\x00\x01", 0x100: "\x00\x00\x01\x00", 0x10000: "\x00\x01\x00\x00", 0x1000000: "\x01\x00\x00\x00", 0x80000000: "\x80\x00\x00\x00",
	} {
		if s := Bytes(crc); s != want {
			t.Errorf("Bytes(%08x) = %q, want %q", crc, s, want)
		}
	}
}

func TestBytesHoldsEveryBit(t *testing.T) {
	for _, crc := range registers() {
		s := Bytes(crc)
		if len(s) != 4 {
			t.Fatalf("Bytes(%08x) has %d bytes", crc, len(s))
		}
		var joined uint32
		for i := range 4 {
			joined = joined*256 + uint32(s[i])
		}
		check(t, "the number of Bytes", joined, crc)
	}
}

// P3.1: Combine.

func TestCombineOfNegativeLengths(t *testing.T) {
	for _, length := range []int{-1, -2, -8, -9, -32, math.MinInt32, -period, math.MinInt64 + 1, math.MinInt64} {
		for _, a := range registers() {
			check(t, "Combine of a negative length", Combine(a, 0x12345678, length), 0)
			check(t, "Combine of a negative length", Combine(0x12345678, a, length), 0)
		}
	}
}

func TestCombineOfLengthZero(t *testing.T) {
	for _, a := range registers() {
		for _, b := range registers() {
			check(t, "Combine of length 0", Combine(a, b, 0), a^b^0xFFFFFFFF)
		}
	}
}

func TestCombineExamples(t *testing.T) {
	check(t, "Combine of two empty strings", Combine(0xFFFFFFFF, 0xFFFFFFFF, 0), 0xFFFFFFFF)
	check(t, "Combine of length 0", Combine(7, 0, 0), 0xFFFFFFF8)
	check(t, "Combine of one byte", Combine(0xFFFFFFFE, 0, 1), 0x00000100)
	check(t, "Combine of three bytes", Combine(0xFFFFFFFE, 0, 3), 0x01000000)
	check(t, "Combine of four bytes", Combine(0xFFFFFFFE, 0, 4), 0x04C11DB7)
	check(t, "Combine of four bytes", Combine(0xFFFFFFFE, 0xFFFFFFFF, 4), 0xFB3EE248)
	check(t, "Combine of 123456789", Combine(otherSum("12345"), otherSum("6789"), 4), 0x0376E6E7)
}

func TestCombineProcessesZeroBytes(t *testing.T) {
	for _, a := range registers() {
		crc := a ^ 0xFFFFFFFF
		for length := range 600 {
			check(t, "Combine of zero bytes", Combine(a, 0, length), crc)
			check(t, "Combine of zero bytes", Combine(a, 0xDEADBEEF, length), crc^0xDEADBEEF)
			crc = otherUpdate(crc, "\x00")
		}
	}
	for _, length := range []int{1023, 1024, 65535, 65536, 99999, 1 << 20, 1<<20 + 1} {
		check(t, "Combine of zero bytes", Combine(0x12345678, 5, length), 5^otherUpdate(0x12345678^0xFFFFFFFF, zeros(length)))
	}
}

// greatLengths are too great to process their zero bytes one by one.
var greatLengths = []int{
	math.MaxInt32, math.MaxInt32 + 1, period - 1, period, period + 1, 1 << 33, 1 << 40, 1<<45 + 12345, 1 << 61, 1<<62 - 1, 1 << 62, 1<<62 + 1,
	math.MaxInt64 - 1, math.MaxInt64,
}

func TestCombineOfGreatLengthsKeepsTheZeroRegister(t *testing.T) {
	for _, length := range greatLengths {
		for _, b := range registers() {
			check(t, "Combine of the register 0", Combine(0xFFFFFFFF, b, length), b)
		}
	}
}

func TestCombineIsPeriodic(t *testing.T) {
	for _, a := range registers() {
		for _, length := range []int{0, 1, 2, 3, 4, 5, 100, 4096} {
			want := otherUpdate(a^0xFFFFFFFF, zeros(length))
			for _, periods := range []int{1, 2, 3, 1 << 20, 1<<31 - 1} {
				check(t, "Combine beyond a period", Combine(a, 0, periods*period+length), want)
			}
		}
		for _, length := range greatLengths {
			check(t, "Combine of a great length", Combine(a, 1, length), Combine(a, 1, length%period))
		}
	}
}

// Two times the greatest length and one byte are a multiple of the period.
func TestCombineOfTheGreatestLength(t *testing.T) {
	for _, a := range registers() {
		once := Combine(a, 0xFFFFFFFF, math.MaxInt64)
		if a != 0xFFFFFFFF && once == a {
			t.Errorf("the greatest length keeps the register %08x", a)
		}
		twice := Combine(once, 0xFFFFFFFF, math.MaxInt64)
		check(t, "Combine of two times the greatest length", otherUpdate(twice^0xFFFFFFFF, "\x00")^0xFFFFFFFF, a)
	}
}

func TestCombineOfGreatLengthsInTwoSteps(t *testing.T) {
	for _, a := range registers() {
		for _, length := range greatLengths {
			for _, first := range []int{1, 7, 1 << 20, length / 2, length - 1} {
				half := Combine(a, 0xFFFFFFFF, first)
				check(t, "Combine in two steps", Combine(half, 9, length-first), Combine(a, 9, length))
			}
		}
	}
}

// P3.2: concatenation.

func TestCombineOfJoinedStrings(t *testing.T) {
	l := contents()
	for i, s := range l {
		for _, u := range []string{"", "\x00", "b", "123456789", zeros(100), l[(i+1)%len(l)], l[len(l)-1-i]} {
			check(t, "Combine of Sum", Combine(Sum(s), Sum(u), len(u)), Sum(s+u))
			check(t, "Combine", Combine(otherSum(s), otherSum(u), len(u)), otherSum(s+u))
		}
	}
}

func TestCombineOfAStringDividedAtEveryPlace(t *testing.T) {
	for _, s := range []string{"", "a", "123456789", "日本語", zeros(20), randomString(random(), 200)} {
		for at := range len(s) + 1 {
			check(t, "Combine of two halves", Combine(Sum(s[:at]), Sum(s[at:]), len(s)-at), otherSum(s))
		}
	}
}

func TestTheEmptyStringIsNeutral(t *testing.T) {
	for _, a := range registers() {
		check(t, "Combine with nothing after it", Combine(a, Sum(""), 0), a)
		for _, length := range append([]int{0, 1, 2, 44, 1000}, greatLengths...) {
			check(t, "Combine with nothing before it", Combine(Sum(""), a, length), a)
		}
	}
}

func TestCombineIsAssociative(t *testing.T) {
	l := registers()
	lengths := []int{0, 1, 2, 3, 4, 5, 9, 44, 1000, math.MaxInt32, period, 1 << 40, 1<<61 + 3}
	for i, a := range l {
		b, c := l[(i+1)%len(l)], l[(i+3)%len(l)]
		for _, m := range lengths {
			for _, n := range lengths {
				left := Combine(Combine(a, b, m), c, n)
				right := Combine(a, Combine(b, c, n), m+n)
				check(t, "Combine of the first two first", left, right)
			}
		}
	}
}

func TestCombineOfThreeStrings(t *testing.T) {
	for _, s := range words("a\x00\xff", 2) {
		for _, u := range words("b\x00", 2) {
			for _, v := range []string{"", "c", "\x00\x00", "123456789"} {
				want := otherSum(s + u + v)
				left := Combine(Combine(Sum(s), Sum(u), len(u)), Sum(v), len(v))
				right := Combine(Sum(s), Combine(Sum(u), Sum(v), len(v)), len(u)+len(v))
				check(t, "Combine of the first two first", left, want)
				check(t, "Combine of the last two first", right, want)
			}
		}
	}
}

// P3.3: detection.

// change exclusive-ors a pattern of 32 bits into the bits of s that begin at a bit index; bits beyond the end are dropped.
func change(s string, at int, pattern uint32) string {
	b := []byte(s)
	for i := range 32 {
		bit := at + i
		if bit < len(b)*8 && pattern>>(31-i)&1 == 1 {
			b[bit/8] ^= 0x80 >> (bit % 8)
		}
	}
	return string(b)
}

// patterns returns all changes of one or two bits of a window, all runs of bits, and others.
func patterns() []uint32 {
	var l []uint32
	for i := range 32 {
		for j := range i + 1 {
			l = append(l, 1<<i|1<<j, 1<<i|(1<<i-1<<j))
		}
	}
	l = append(l, 0xFFFFFFFF, 0xAAAAAAAA, 0x55555555, 0x04C11DB7, 0x82608EDB, 0xEDB88320, 0xDB710641)
	r := random()
	for range 300 {
		l = append(l, r.Uint32())
	}
	return l
}

// windowsOf calls f for every window of 32 consecutive bits of s, or for all of s if it is shorter.
func windowsOf(s string, f func(at int)) {
	for at := range max(1, len(s)*8-31) {
		f(at)
	}
}

// short returns strings with one to eleven bytes.
func short() []string {
	r := random()
	l := []string{"123456789", "日本語", "\x04\xc1\x1d\xb7", "\xff\xff\xff\xff\x00\x00\x00\x00"}
	for length := 1; length < 12; length++ {
		l = append(l, zeros(length), strings.Repeat("\xff", length), randomString(r, length))
	}
	return l
}

func TestChangesWithinEveryWindowAreDetected(t *testing.T) {
	l := patterns()
	for _, s := range short() {
		crc := Sum(s)
		windowsOf(s, func(at int) {
			for _, pattern := range l {
				changed := change(s, at, pattern)
				if changed != s && Sum(changed) == crc {
					t.Errorf("%q and %q have the same checksum", s, changed)
				}
			}
		})
	}
}

// All 65536 strings that differ only in two consecutive bytes have different checksums.
func TestAllChangesOfTwoBytesAreDetected(t *testing.T) {
	for _, before := range []string{"", "\x00", "abc"} {
		for _, after := range []string{"", "\x00", "d", "123456789"} {
			seen := map[uint32]bool{}
			for i := range 1 << 16 {
				seen[Sum(before, string([]byte{byte(i >> 8), byte(i)}), after)] = true
			}
			if len(seen) != 1<<16 {
				t.Errorf("%d different checksums of 65536 strings", len(seen))
			}
		}
	}
}

// The effects of the single bits of a window are linearly independent exactly if no change of several of them has no effect.
func TestTheBitsOfEveryWindowAreIndependent(t *testing.T) {
	for _, s := range append(short(), randomString(random(), 44), zeros(60)) {
		crc := Sum(s)
		windowsOf(s, func(at int) {
			var effects []uint32
			for i := range min(32, len(s)*8) {
				effects = append(effects, crc^Sum(change(s, at, 1<<(31-i))))
			}
			if n := rank(effects); n != len(effects) {
				t.Errorf("%d of %d bits at %d of %q are independent", n, len(effects), at, s)
			}
		})
	}
}

// rank returns the number of linearly independent rows over GF(2).
func rank(rows []uint32) int {
	n := 0
	for bit := range 32 {
		at := slices.IndexFunc(rows, func(row uint32) bool { return row>>bit&1 == 1 })
		if at < 0 {
			continue
		}
		n++
		pivot := rows[at]
		rows = slices.Delete(slices.Clone(rows), at, at+1)
		for i := range rows {
			if rows[i]>>bit&1 == 1 {
				rows[i] ^= pivot
			}
		}
	}
	return n
}

// Any four bytes bring a register to any other one in exactly one way.
func TestFourBytesReachEveryRegister(t *testing.T) {
	for _, crc := range registers() {
		for _, want := range registers() {
			// The bytes of crc clear the register, so the others act on 0.
			s := Bytes(crc ^ before4(want))
			check(t, "the register after four bytes", Update(crc, s), want)
			for i := range 32 {
				if Update(crc, change(s, 0, 1<<i)) == want {
					t.Errorf("two ways from %08x to %08x", crc, want)
				}
			}
		}
	}
}

// before4 returns the register that four zero bytes turn into crc: as many as they lack to a period.
func before4(crc uint32) uint32 {
	return Combine(crc^0xFFFFFFFF, 0, period-4)
}

// P3.4: residue.

func TestTheChecksumOfAStringWithItsChecksumIsZero(t *testing.T) {
	check(t, "Sum of FFFFFFFF", Sum("\xff\xff\xff\xff"), 0)
	check(t, "Sum of 123456789 with its checksum", Sum("123456789\x03\x76\xe6\xe7"), 0)
	for _, s := range contents() {
		check(t, "Sum with its bytes", Sum(s, Bytes(Sum(s))), 0)
		check(t, "Sum of one string with its bytes", Sum(s+Bytes(Sum(s))), 0)
		check(t, "Sum with its bytes and zero bytes", Sum(s, Bytes(Sum(s)), zeros(9)), 0)
	}
}

func TestARegisterIsClearedByItsBytes(t *testing.T) {
	for _, crc := range registers() {
		check(t, "Update of the bytes of the register", Update(crc, Bytes(crc)), 0)
		for _, other := range registers() {
			if other != crc && Update(crc, Bytes(other)) == 0 {
				t.Errorf("the bytes of %08x clear %08x", other, crc)
			}
		}
	}
}

func exclusiveOr(a, b string) string {
	c := make([]byte, len(a))
	for i := range c {
		c[i] = a[i] ^ b[i]
	}
	return string(c)
}

func TestTheChecksumIsAffine(t *testing.T) {
	r := random()
	for length := range 100 {
		for range 20 {
			a, b, c := randomString(r, length), randomString(r, length), randomString(r, length)
			joined := exclusiveOr(exclusiveOr(a, b), c)
			check(t, "Sum of an exclusive or", Sum(joined), Sum(a)^Sum(b)^Sum(c))
		}
	}
	for _, a := range words("\x00\x5a\xff", 2) {
		for _, b := range words("\x01\x80\xff", 2) {
			if len(a) == len(b) {
				check(t, "Sum of an exclusive or", Sum(exclusiveOr(a, b)), Sum(a)^Sum(b)^Sum(zeros(len(a))))
			}
		}
	}
}

func TestUpdateIsLinear(t *testing.T) {
	r := random()
	for _, crc := range registers() {
		for length := range 20 {
			a, b := randomString(r, length), randomString(r, length)
			other := r.Uint32()
			check(t, "Update of an exclusive or", Update(crc^other, exclusiveOr(a, b)), Update(crc, a)^Update(other, b))
		}
	}
}
