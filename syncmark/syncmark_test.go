package syncmark

import (
	"math"
	"math/bits"
	"math/rand/v2"
	"strconv"
	"strings"
	"testing"

	"stele/api"
	"stele/cells"
)

// The marks as the document writes them.
const (
	writtenMark      = "1111100110101000"
	writtenPlainMark = "0000011001010111"
)

// damages returns what the cell of a mark may become: its inverse, an unreadable cell, or any byte that counts as one.
func damages(cell byte) []byte {
	return []byte{cell ^ 1, '?', 0, 1, 255, ' ', '2', '/', 'x', cell | 128, cell & 15}
}

// otherDistance counts in a strip that is continued by unreadable cells on both sides.
func otherDistance(strip string, at int) int {
	if at < -16 || at > len(strip) {
		return 16
	}
	continued := strings.Repeat("?", 16) + strip + strings.Repeat("?", 16)
	n := 0
	for i, c := range []byte(continued[16+at : 32+at]) {
		if c != writtenMark[i] {
			n++
		}
	}
	return n
}

// otherFind tries the windows of 16 cells of the whole strip.
func otherFind(strip string, at int) (int, bool) {
	for offset := 0; offset+16 <= len(strip); offset++ {
		if offset >= at && otherDistance(strip[offset:offset+16], 0) <= 2 {
			return offset, true
		}
	}
	return 0, false
}

func random() *rand.Rand {
	return rand.New(rand.NewPCG(12, 16))
}

// randomStrip returns length bytes of an alphabet.
func randomStrip(r *rand.Rand, alphabet string, length int) string {
	s := make([]byte, length)
	for i := range s {
		s[i] = alphabet[r.IntN(len(alphabet))]
	}
	return string(s)
}

// damaged returns s with another byte at an index.
func damaged(s string, i int, c byte) string {
	return s[:i] + string([]byte{c}) + s[i+1:]
}

// randomlyDamaged returns the mark with n damaged cells.
func randomlyDamaged(r *rand.Rand, n int) string {
	s := writtenMark
	for _, i := range r.Perm(16)[:n] {
		l := damages(writtenMark[i])
		s = damaged(s, i, l[r.IntN(len(l))])
	}
	return s
}

// stripOf returns a number as 16 cells.
func stripOf(n int) string {
	s := strconv.FormatInt(int64(n), 2)
	return strings.Repeat("0", 16-len(s)) + s
}

// farOffsets are far outside of every strip.
var farOffsets = []int{math.MinInt, math.MinInt + 1, math.MinInt + 15, math.MinInt + 16, math.MinInt32, -1 << 62, -65536, -1000, 65536, math.MaxInt32, 1 << 32, 1 << 62, math.MaxInt - 16, math.MaxInt - 15, math.MaxInt - 14, math.MaxInt - 1, math.MaxInt}

func checkDistance(t *testing.T, strip string, at, want int) {
	t.Helper()
	if n := Distance(strip, at); n != want {
		t.Errorf("Distance(%q, %d) = %d, want %d", strip, at, n, want)
	}
}

func checkFind(t *testing.T, strip string, at, want int) {
	t.Helper()
	if n, ok := Find(strip, at); n != want || !ok {
		t.Errorf("Find(%q, %d) = %d, %v, want %d", strip, at, n, ok, want)
	}
}

func checkNotFound(t *testing.T, strip string, at int) {
	t.Helper()
	if n, ok := Find(strip, at); n != 0 || ok {
		t.Errorf("Find(%q, %d) = %d, %v, want none", strip, at, n, ok)
	}
}

func checkIsPlain(t *testing.T, strip string, at int, want bool) {
	t.Helper()
	if is := IsPlain(strip, at); is != want {
		t.Errorf("IsPlain(%q, %d) = %v", strip, at, is)
	}
}

// P12.1: the marks.

func TestMarks(t *testing.T) {
	if Mark() != writtenMark {
		t.Errorf("Mark() = %q", Mark())
	}
	if PlainMark() != writtenPlainMark {
		t.Errorf("PlainMark() = %q", PlainMark())
	}
	if len(Mark()) != api.MarkCells || len(PlainMark()) != api.MarkCells {
		t.Errorf("the marks have %d and %d cells", len(Mark()), len(PlainMark()))
	}
	if cells.Invert(Mark()) != PlainMark() {
		t.Errorf("%q is not the inverse of %q", PlainMark(), Mark())
	}
}

// P12.2: Distance.

func TestDistanceExamples(t *testing.T) {
	for _, c := range []struct {
		strip    string
		at, want int
	}{
		{"", 0, 16}, {"", -1, 16}, {"", 1, 16}, {"", -16, 16}, {"", 16, 16},
		{writtenMark, 0, 0}, {"0" + writtenMark, 1, 0}, {writtenMark + "1", 0, 0}, {"é" + writtenMark, 2, 0},
		{"0111100110101000", 0, 1}, {"1111100110101001", 0, 1}, {"?111100110101000", 0, 1}, {"111110011010100?", 0, 1},
		{"1", 0, 15}, {"0", 0, 16}, {"?", 0, 16}, {"1", 1, 16}, {"0", -15, 15}, {"1", -15, 16}, {"0", -16, 16},
		{"1111111111111111", 0, 7}, {"0000000000000000", 0, 9}, {"????????????????", 0, 16}, {writtenPlainMark, 0, 16},
	} {
		checkDistance(t, c.strip, c.at, c.want)
	}
}

func TestDistanceOfAllReadableStrips(t *testing.T) {
	number, err := strconv.ParseUint(writtenMark, 2, 16)
	if err != nil {
		t.Fatal(err)
	}
	for n := range 1 << 16 {
		checkDistance(t, stripOf(n), 0, bits.OnesCount16(uint16(n)^uint16(number)))
	}
}

func TestDistanceOfPartsOfTheMark(t *testing.T) {
	for from := range 17 {
		for to := from; to <= 16; to++ {
			part := writtenMark[from:to]
			checkDistance(t, part, -from, 16-len(part))
			// Before and after the strip there are no cells, whichever the mark has there.
			checkDistance(t, strings.Repeat("?", from)+part, 0, 16-len(part))
		}
	}
}

func TestDistanceOfShortStripsAtAllOffsets(t *testing.T) {
	strips := []string{""}
	for len(strips) < 5000 {
		for at := -20; at <= 20; at++ {
			checkDistance(t, strips[0], at, otherDistance(strips[0], at))
		}
		for _, c := range "01?" {
			strips = append(strips, strips[0]+string(c))
		}
		strips = strips[1:]
	}
}

func TestDistanceOfLongStripsAtAllOffsets(t *testing.T) {
	r := random()
	for _, alphabet := range []string{"01", "01?", "0123", "\x00\x0101\xb0\xb1\xff"} {
		for range 20 {
			strip := randomStrip(r, alphabet, r.IntN(900))
			for at := -20; at <= len(strip)+20; at++ {
				checkDistance(t, strip, at, otherDistance(strip, at))
			}
		}
	}
}

func TestNoOtherByteCountsAsACellOfTheMark(t *testing.T) {
	for i := range 16 {
		for b := range 256 {
			want := 1
			if byte(b) == writtenMark[i] {
				want = 0
			}
			checkDistance(t, damaged(writtenMark, i, byte(b)), 0, want)
		}
	}
}

func TestDistanceFarOutside(t *testing.T) {
	for _, strip := range []string{"", "1", writtenMark, strings.Repeat(writtenMark, 4), strings.Repeat("1", 100), strings.Repeat("0", 100)} {
		for _, at := range farOffsets {
			checkDistance(t, strip, at, 16)
		}
		for _, at := range []int{-16, -17, len(strip), len(strip) + 1} {
			checkDistance(t, strip, at, 16)
		}
	}
}

// P12.2: IsPlain.

func TestIsPlainExamples(t *testing.T) {
	p := writtenPlainMark
	for _, c := range []struct {
		strip string
		at    int
		want  bool
	}{
		{p, 0, true}, {"1" + p, 1, true}, {p + "0", 0, true}, {"?" + p + "?", 1, true}, {"é" + p, 2, true}, {p + p, 16, true},
		{"", 0, false}, {"", -1, false}, {"", 1, false}, {p, 1, false}, {p, -1, false}, {p, 16, false}, {p, 17, false}, {p, -16, false},
		{"1" + p, 0, false}, {"1" + p, 2, false}, {p + p, 8, false}, {p + p, 15, false}, {p + p, 32, false}, {p + p, -16, false},
		{p[:15], 0, false}, {p[1:], 0, false}, {p[1:], -1, false}, {writtenMark, 0, false},
	} {
		checkIsPlain(t, c.strip, c.at, c.want)
	}
}

func TestOneReadableStripIsPlain(t *testing.T) {
	for n := range 1 << 16 {
		strip := stripOf(n)
		checkIsPlain(t, strip, 0, strip == writtenPlainMark)
	}
}

func TestAPlainMarkIsExact(t *testing.T) {
	for i := range 16 {
		for b := range 256 {
			strip := damaged(writtenPlainMark, i, byte(b))
			checkIsPlain(t, strip, 0, byte(b) == writtenPlainMark[i])
			checkIsPlain(t, "01"+strip+"10", 2, byte(b) == writtenPlainMark[i])
		}
	}
	for length := range 16 {
		checkIsPlain(t, writtenPlainMark[:length], 0, false)
		checkIsPlain(t, "0"+writtenPlainMark[:length], 1, false)
	}
}

func TestIsPlainAtAllOffsets(t *testing.T) {
	r := random()
	for range 200 {
		strip := randomStrip(r, "01?", r.IntN(40)) + writtenPlainMark + randomStrip(r, "01?", r.IntN(40))
		for at := -20; at <= len(strip)+20; at++ {
			want := at >= 0 && at+16 <= len(strip) && strip[at:at+16] == writtenPlainMark
			checkIsPlain(t, strip, at, want)
		}
		for _, at := range farOffsets {
			checkIsPlain(t, strip, at, false)
		}
	}
}

// P12.3: Find.

func TestFindExamples(t *testing.T) {
	m := writtenMark
	for _, c := range []struct {
		strip    string
		at, want int
	}{
		{m, 0, 0}, {m, -1, 0}, {m, math.MinInt, 0}, {"0" + m, 0, 1}, {"0" + m, 1, 1}, {"é" + m, 0, 2},
		{m + "00" + m, 0, 0}, {m + "00" + m, 1, 18}, {m + "00" + m, 18, 18}, {m + m, 1, 16}, {m + m + m, 17, 32},
		{"??" + m[2:], 0, 0}, {m[:14] + "??", 0, 0}, {"00" + m[2:], 0, 0}, {"0?" + m[2:], 0, 0},
		// The first mark is found, not the one that is damaged least.
		{"??" + m[2:] + m, 0, 0}, {"??" + m[2:] + m, 1, 16}, {"???" + m[3:] + m, 0, 16},
	} {
		checkFind(t, c.strip, c.at, c.want)
	}
}

func TestNotFoundExamples(t *testing.T) {
	m := writtenMark
	for _, c := range []struct {
		strip string
		at    int
	}{
		{"", 0}, {"", -1}, {"", 1}, {"", math.MinInt}, {"", math.MaxInt}, {"1", 0}, {m, 1}, {m, 15}, {m, 16}, {m, 17},
		{m + m, 17}, {m + m, 32}, {m + m, 33}, {"0" + m, 2}, {"???" + m[3:], 0}, {writtenPlainMark, 0},
		{strings.Repeat("0", 100), 0}, {strings.Repeat("1", 100), 0}, {strings.Repeat("?", 100), 0}, {strings.Repeat("01", 50), 0},
	} {
		checkNotFound(t, c.strip, c.at)
	}
}

func TestAMarkHasAllOfItsCells(t *testing.T) {
	m := writtenMark
	for _, at := range []int{0, -1, -2, -3, math.MinInt} {
		for _, strip := range []string{m[:15], m[:14], m[1:], m[2:], m[1:15], "???" + m[:15], "???" + m[:14]} {
			checkNotFound(t, strip, at)
		}
	}
	checkNotFound(t, m+"???"+m[:15], 1)
	checkNotFound(t, m+"???"+m[:14], 1)
	checkFind(t, m[2:]+"???"+m, -2, 17)
	checkFind(t, m[:15]+"?", 0, 0)
	checkFind(t, "??"+m[2:], 0, 0)
	// The cells that are missing count as different, but the distance alone would suffice.
	checkDistance(t, m[:14], 0, 2)
	checkDistance(t, m[2:], -2, 2)
	checkDistance(t, m+"???"+m[:14], 19, 2)
}

func TestFindInAllReadableStrips(t *testing.T) {
	number, err := strconv.ParseUint(writtenMark, 2, 16)
	if err != nil {
		t.Fatal(err)
	}
	for n := range 1 << 16 {
		if bits.OnesCount16(uint16(n)^uint16(number)) <= 2 {
			checkFind(t, stripOf(n), 0, 0)
		} else {
			checkNotFound(t, stripOf(n), 0)
		}
	}
}

// checkFindFromAllOffsets compares Find with the other way to find a mark.
func checkFindFromAllOffsets(t *testing.T, strip string) {
	t.Helper()
	offsets := farOffsets
	for at := -3; at <= len(strip)+3; at++ {
		offsets = append(offsets[:len(offsets):len(offsets)], at)
	}
	for _, at := range offsets {
		if want, ok := otherFind(strip, at); ok {
			checkFind(t, strip, at, want)
		} else {
			checkNotFound(t, strip, at)
		}
	}
}

func TestFindFromAllOffsets(t *testing.T) {
	r := random()
	for range 200 {
		strip := randomStrip(r, "01?", r.IntN(20))
		for range r.IntN(6) {
			strip += randomlyDamaged(r, r.IntN(5)) + randomStrip(r, "01?", r.IntN(20))
		}
		checkFindFromAllOffsets(t, strip)
	}
	for range 100 {
		checkFindFromAllOffsets(t, randomStrip(r, "01", r.IntN(300)))
		checkFindFromAllOffsets(t, randomStrip(r, "\x00\x0101\xb0\xb1\xff", r.IntN(100)))
	}
}

func TestFindInOverlappingMarks(t *testing.T) {
	m := writtenMark
	for shift := 1; shift < 16; shift++ {
		checkFindFromAllOffsets(t, m[:shift]+m)
		checkFindFromAllOffsets(t, m+m[16-shift:])
		checkFindFromAllOffsets(t, m[:shift]+m+m[:shift])
	}
}

func TestFindAfterManyCells(t *testing.T) {
	strip := strings.Repeat("0", 1000000) + writtenMark + strings.Repeat("1", 1000) + writtenMark
	checkFind(t, strip, 0, 1000000)
	checkFind(t, strip, 1000000, 1000000)
	checkFind(t, strip, 1000001, 1001016)
	checkNotFound(t, strip, 1001017)
}

// P12.4: damaged marks, the cells after a mark, and the plain mark.

func TestUpToTwoDamagedCells(t *testing.T) {
	for i := range 16 {
		for _, a := range damages(writtenMark[i]) {
			one := damaged(writtenMark, i, a)
			checkDistance(t, one, 0, 1)
			checkFind(t, one, 0, 0)
			for j := range i {
				for _, b := range damages(writtenMark[j]) {
					two := damaged(one, j, b)
					checkDistance(t, two, 0, 2)
					checkFind(t, two, 0, 0)
				}
			}
		}
	}
}

func TestThreeDamagedCells(t *testing.T) {
	for i := range 16 {
		for j := range i {
			for k := range j {
				for n := range 27 {
					strip := damaged(writtenMark, i, damages(writtenMark[i])[n%3])
					strip = damaged(strip, j, damages(writtenMark[j])[n/3%3])
					strip = damaged(strip, k, damages(writtenMark[k])[n/9])
					checkDistance(t, strip, 0, 3)
					checkNotFound(t, strip, 0)
				}
			}
		}
	}
}

func TestMoreDamagedCells(t *testing.T) {
	r := random()
	for n := 3; n <= 16; n++ {
		for range 200 {
			strip := randomlyDamaged(r, n)
			checkDistance(t, strip, 0, n)
			checkNotFound(t, strip, 0)
		}
	}
}

func TestCellsAfterAMarkHaveNoInfluence(t *testing.T) {
	r := random()
	for range 2000 {
		before := r.IntN(40)
		n := r.IntN(6)
		strip := strings.Repeat("?", before) + randomlyDamaged(r, n)
		for _, after := range []string{"", "0", "1", "?", writtenMark, writtenPlainMark, randomStrip(r, "01", 836), randomStrip(r, "01?\x00\xff", r.IntN(100))} {
			checkDistance(t, strip+after, before, n)
			at, ok := Find(strip+after, before)
			if found := ok && at == before; found != (n <= 2) {
				t.Errorf("Find(%q, %d) = %d, %v with %d damaged cells", strip+after, before, at, ok, n)
			}
			if n <= 2 {
				checkFind(t, strip+after, 0, before)
			}
		}
	}
}

func TestThePlainMarkIsFarFromTheMark(t *testing.T) {
	r := random()
	checkDistance(t, writtenPlainMark, 0, 16)
	checkNotFound(t, writtenPlainMark, 0)
	for range 500 {
		before := randomStrip(r, "01?", r.IntN(40))
		strip := before + writtenPlainMark + randomStrip(r, "01?", r.IntN(40))
		checkDistance(t, strip, len(before), 16)
		checkIsPlain(t, strip, len(before), true)
		if at, ok := Find(strip, len(before)); ok && at == len(before) {
			t.Errorf("a mark is found at %d of %q", at, strip)
		}
	}
}
