package cells

import (
	"slices"
	"strconv"
	"strings"
	"testing"

	"stele/api"
)

// allBytes returns a string of all 256 bytes, which is not valid UTF-8.
func allBytes() string {
	b := make([]byte, 256)
	for i := range b {
		b[i] = byte(i)
	}
	return string(b)
}

// words returns all strings over the alphabet with at most max bytes.
func words(alphabet string, max int) []string {
	all := []string{""}
	last := all
	for range max {
		var next []string
		for _, w := range last {
			for i := range len(alphabet) {
				next = append(next, w+alphabet[i:i+1])
			}
		}
		all = append(all, next...)
		last = next
	}
	return all
}

// foreign returns strings that are not cell strings, of several lengths.
func foreign() []string {
	l := []string{
		" ", "01 ", "\n", "01010101\n", "\x00", "\xff", "0000000\xff", "2", "/", "@", ">", "O", "l",
		"é", "0é", "０", "１", "\xef\xbc\x9f", "\u0130", "\u0131", "\u013f", "0100000\u0131", "01000001x", "x01000001",
		strings.Repeat("0", 1000) + "a",
	}
	for i := range 256 {
		b := string([]byte{byte(i)})
		if !strings.Contains("01?", b) {
			l = append(l, b, "0"+b+"1", "0100000"+b)
		}
	}
	return l
}

// P1.1: Check.

func TestCheckAcceptsCellStrings(t *testing.T) {
	for _, c := range append(words("01?", 5), strings.Repeat("01?", 10000)) {
		if e := Check(c); e != api.OK {
			t.Errorf("Check(%q) = %d", c, e)
		}
	}
}

func TestCheckRejectsOtherBytes(t *testing.T) {
	for _, c := range foreign() {
		if e := Check(c); e != api.ErrSyntax {
			t.Errorf("Check(%q) = %d", c, e)
		}
	}
}

func TestCheckLooksAtEveryPosition(t *testing.T) {
	for at := range 40 {
		c := strings.Repeat("1", at) + "x" + strings.Repeat("0", 39-at)
		if e := Check(c); e != api.ErrSyntax {
			t.Errorf("Check(%q) = %d", c, e)
		}
	}
}

// P1.1: FromBytes.

func TestFromBytesExamples(t *testing.T) {
	for _, c := range []struct{ bytes, cells string }{
		{"", ""},
		{"A", "01000001"},
		{"\x00", "00000000"},
		{"\xff", "11111111"},
		{"\x80\x01", "1000000000000001"},
		{"AB", "0100000101000010"},
		{"é", "1100001110101001"},
		{"\xc3", "11000011"},
		{"0", "00110000"},
		{"?", "00111111"},
	} {
		if s := FromBytes(c.bytes); s != c.cells {
			t.Errorf("FromBytes(%q) = %q, want %q", c.bytes, s, c.cells)
		}
	}
}

func TestFromBytesOfEveryByte(t *testing.T) {
	var all strings.Builder
	for i := range 256 {
		binary := strconv.FormatInt(int64(i), 2)
		want := strings.Repeat("0", 8-len(binary)) + binary
		if s := FromBytes(string([]byte{byte(i)})); s != want {
			t.Errorf("FromBytes(%d) = %q, want %q", i, s, want)
		}
		all.WriteString(want)
	}
	if FromBytes(allBytes()) != all.String() {
		t.Error("the cells of several bytes are not in order")
	}
}

// P1.2: ToBytes.

func TestToBytesExamples(t *testing.T) {
	for _, c := range []struct {
		cells, bytes string
		unreadable   []int
	}{
		{"", "", nil},
		{"01000001", "A", nil},
		{"0100?001", "A", []int{0}},
		{"0?000001", "\x01", []int{0}},
		{"????????", "\x00", []int{0}},
		{"?1111111", "\x7f", []int{0}},
		{"1111111?", "\xfe", []int{0}},
		{"11111111", "\xff", nil},
		{"0100000101000010", "AB", nil},
		{"010000010100001?", "AB", []int{1}},
		{"?100000101000010", "AB", []int{0}},
		{"01000001????????0100?010", "A\x00B", []int{1, 2}},
		{"?00000000100000100?0000001000010?0000000", "\x00A\x00B\x00", []int{0, 2, 4}},
	} {
		checkToBytes(t, c.cells, c.bytes, c.unreadable, api.OK)
	}
}

func checkToBytes(t *testing.T, cells, bytes string, unreadable []int, e api.Errno) {
	t.Helper()
	b, l, got := ToBytes(cells)
	if b != bytes || len(l) != len(unreadable) || !slices.Equal(l, unreadable) && len(l) > 0 || got != e {
		t.Errorf("ToBytes(%q) = %q, %v, %d; want %q, %v, %d", cells, b, l, got, bytes, unreadable, e)
	}
}

func TestToBytesCountsEveryUnreadableCellAsZero(t *testing.T) {
	for at := range 8 {
		for _, around := range []string{"00000000", "11111111"} {
			c := around[:at] + "?" + around[at+1:]
			want, _, _ := ToBytes(around[:at] + "0" + around[at+1:])
			checkToBytes(t, c, want, []int{0}, api.OK)
			checkToBytes(t, "11111111"+c+"00000000", "\xff"+want+"\x00", []int{1}, api.OK)
		}
	}
}

func TestToBytesRejectsOtherBytes(t *testing.T) {
	for _, c := range foreign() {
		checkToBytes(t, c, "", nil, api.ErrSyntax)
		checkToBytes(t, "????????"+c, "", nil, api.ErrSyntax)
		checkToBytes(t, c+"0100000?", "", nil, api.ErrSyntax)
	}
}

func TestToBytesRejectsShortCells(t *testing.T) {
	for n := range 65 {
		want := api.ErrShort
		if n%8 == 0 {
			want = api.OK
		}
		for _, cell := range []string{"0", "1", "?"} {
			c := strings.Repeat(cell, n)
			b, l, e := ToBytes(c)
			if e != want || e != api.OK && (b != "" || len(l) != 0) {
				t.Errorf("ToBytes(%q) = %q, %v, %d", c, b, l, e)
			}
		}
	}
}

func TestToBytesReportsSyntaxBeforeLength(t *testing.T) {
	for n := range 17 {
		checkToBytes(t, strings.Repeat("1", n)+"x", "", nil, api.ErrSyntax)
		checkToBytes(t, "x"+strings.Repeat("?", n), "", nil, api.ErrSyntax)
	}
}

// P1.3: Distance, Unreadable and Invert.

func TestDistanceExamples(t *testing.T) {
	for _, c := range []struct {
		a, b string
		n    int
	}{
		{"", "", 0},
		{"0", "1", 1},
		{"1", "0", 1},
		{"1", "1", 0},
		{"01?", "10?", 2},
		{"?", "0", 0},
		{"?", "1", 0},
		{"?0?1", "?11?", 1},
		{"0101", "1010", 4},
		{"000111", "001011", 2},
		{strings.Repeat("01", 5000), strings.Repeat("00", 5000), 5000},
	} {
		if n, e := Distance(c.a, c.b); n != c.n || e != api.OK {
			t.Errorf("Distance(%q, %q) = %d, %d; want %d", c.a, c.b, n, e, c.n)
		}
	}
}

func checkDistanceError(t *testing.T, a, b string, want api.Errno) {
	t.Helper()
	if n, e := Distance(a, b); n != 0 || e != want {
		t.Errorf("Distance(%q, %q) = %d, %d; want 0, %d", a, b, n, e, want)
	}
}

func TestDistanceRejectsOtherBytes(t *testing.T) {
	for _, c := range foreign() {
		same := strings.Repeat("1", len(c))
		checkDistanceError(t, c, same, api.ErrSyntax)
		checkDistanceError(t, same, c, api.ErrSyntax)
		checkDistanceError(t, c, c, api.ErrSyntax)
		checkDistanceError(t, "0"+same, "1"+c, api.ErrSyntax)
	}
}

func TestDistanceRejectsDifferentLengths(t *testing.T) {
	for _, c := range [][2]string{{"", "0"}, {"01", "011"}, {"?", "??"}, {"0", "10000000"}} {
		checkDistanceError(t, c[0], c[1], api.ErrArgument)
		checkDistanceError(t, c[1], c[0], api.ErrArgument)
	}
}

func TestDistanceReportsSyntaxBeforeLengths(t *testing.T) {
	for _, c := range foreign() {
		for _, other := range []string{"", c + "0", c + c} {
			checkDistanceError(t, c, other, api.ErrSyntax)
			checkDistanceError(t, other, c, api.ErrSyntax)
		}
		checkDistanceError(t, c, strings.Repeat("0", len(c)+1), api.ErrSyntax)
		checkDistanceError(t, strings.Repeat("0", len(c)+1), c, api.ErrSyntax)
	}
}

func TestUnreadable(t *testing.T) {
	for _, c := range []struct {
		cells string
		n     int
	}{
		{"", 0}, {"01", 0}, {"?", 1}, {"0?1?", 2}, {"????????", 8}, {"0?1?x", 2}, {"xyz", 0}, {"é?é", 1}, {"\u013f", 0}, {"？", 0}, {"\xff?\x00?", 2},
		{allBytes(), 1},
		{strings.Repeat("?0", 5000), 5000},
	} {
		if n := Unreadable(c.cells); n != c.n {
			t.Errorf("Unreadable(%q) = %d, want %d", c.cells, n, c.n)
		}
	}
}

func TestInvertExamples(t *testing.T) {
	for _, c := range []struct{ cells, inverted string }{
		{"", ""}, {"0", "1"}, {"1", "0"}, {"?", "?"}, {"01?", "10?"}, {"0011", "1100"}, {"01?x", "10?x"}, {"é0é", "é1é"}, {"\xff1\xff", "\xff0\xff"}, {"０1", "０0"},
	} {
		if s := Invert(c.cells); s != c.inverted {
			t.Errorf("Invert(%q) = %q, want %q", c.cells, s, c.inverted)
		}
	}
}

func TestInvertOfEveryByte(t *testing.T) {
	all := allBytes()
	want := all[:'0'] + "10" + all['2':]
	if s := Invert(all); s != want {
		t.Errorf("Invert of all bytes = %q", s)
	}
}

// P1.4: the laws.

func TestToBytesIsTheInverseOfFromBytes(t *testing.T) {
	for _, b := range append(words("\x00\x01\x80\xc3\xff?1", 4), allBytes(), "Hello, world", "héllo, wörld") {
		checkToBytes(t, FromBytes(b), b, nil, api.OK)
	}
	for i := range 1 << 16 {
		b := string([]byte{byte(i >> 8), byte(i)})
		c := FromBytes(b)
		if back, l, e := ToBytes(c); back != b || len(l) != 0 || e != api.OK {
			t.Fatalf("ToBytes(FromBytes(%q)) = %q, %v, %d", b, back, l, e)
		}
		if e := Check(c); e != api.OK || len(c) != 16 {
			t.Fatalf("FromBytes(%q) = %q", b, c)
		}
	}
}

func TestFromBytesIsTheInverseOfToBytes(t *testing.T) {
	for _, c := range words("01", 8) {
		if len(c) != 8 {
			continue
		}
		for _, d := range []string{c, c + c, c + Invert(c)} {
			b, l, e := ToBytes(d)
			if e != api.OK || len(l) != 0 || FromBytes(b) != d {
				t.Errorf("%q: %q, %v, %d", d, b, l, e)
			}
		}
	}
}

func TestDistanceIsSymmetric(t *testing.T) {
	all := words("01?x", 3)
	for _, a := range all {
		for _, b := range all {
			n, e := Distance(a, b)
			m, f := Distance(b, a)
			if n != m || e != f {
				t.Errorf("%q, %q: %d, %d and %d, %d", a, b, n, e, m, f)
			}
		}
	}
}

func TestDistanceSatisfiesTheTriangleInequality(t *testing.T) {
	var all []string
	for _, w := range words("01", 5) {
		if len(w) == 5 {
			all = append(all, w)
		}
	}
	for _, a := range all {
		for _, b := range all {
			ab, e := Distance(a, b)
			if e != api.OK || ab == 0 && a != b || ab != 0 && a == b {
				t.Errorf("Distance(%q, %q) = %d, %d", a, b, ab, e)
			}
			for _, c := range all {
				ac, _ := Distance(a, c)
				bc, _ := Distance(b, c)
				if ac > ab+bc {
					t.Errorf("%q, %q, %q: %d > %d + %d", a, b, c, ac, ab, bc)
				}
			}
		}
	}
}

func TestInvertTwiceRestores(t *testing.T) {
	for _, c := range append(words("01?x\xff", 4), allBytes(), "0é1") {
		if s := Invert(Invert(c)); s != c {
			t.Errorf("Invert(Invert(%q)) = %q", c, s)
		}
	}
	for _, c := range words("01", 6) {
		if n, e := Distance(c, Invert(c)); n != len(c) || e != api.OK {
			t.Errorf("%q and its inverse: %d, %d", c, n, e)
		}
	}
}
