package netstring

import (
	"math"
	"math/big"
	"regexp"
	"slices"
	"strconv"
	"strings"
	"testing"

	"stele/api"
)

// words returns all strings over the alphabet with at most max bytes.
func words(alphabet string, max int) []string {
	all := []string{""}
	last := all
	for range max {
		var next []string
		for _, w := range last {
			for i := range len(alphabet) {
				next = append(next, w+alphabet[i:i+1])
			}
		}
		all = append(all, next...)
		last = next
	}
	return all
}

// contents returns strings of many kinds, among them some that look like encodings.
func contents() []string {
	l := append(words("0:,", 3), words("1- x", 2)...)
	for i := range 256 {
		l = append(l, string([]byte{byte(i)}))
	}
	return append(l,
		"abc", "12", "a,b", "\x00\xff\x80", "é", "日本", "1:a,", "5:1:a,,", "-12 ", "\r\n", "9999999999",
		strings.Repeat(",", 9), strings.Repeat(":", 10), strings.Repeat("0", 99), strings.Repeat("1", 100),
		strings.Repeat("x,", 499), strings.Repeat("é", 500), strings.Repeat("\xff", 99999), strings.Repeat("y", 1<<20))
}

// surroundings are bytes that precede or follow an encoding.
var surroundings = []string{"", " ", ":", ",", "0", "1", "-", "7 ", "x", "3:abc,", "9:", "\n", "\x00", "\xff", "é"}

// numbers returns numbers of up to 32 bits, with all limits and their neighbours.
func numbers() []int {
	l := []int{math.MinInt32, math.MaxInt32}
	for n := -1100; n <= 1100; n++ {
		l = append(l, n)
	}
	for power := 1; power <= 1_000_000_000; power *= 10 {
		l = append(l, power-1, power, power+1, -power+1, -power, -power-1)
	}
	for bit := range 31 {
		l = append(l, 1<<bit-1, 1<<bit, 1<<bit+1, -1<<bit+1, -1<<bit, -1<<bit-1)
	}
	return l
}

func checkNumber(t *testing.T, s string, at, n, next int, e api.Errno) {
	t.Helper()
	gotN, gotNext, got := ReadNumber(s, at)
	if gotN != n || gotNext != next || got != e {
		t.Errorf("ReadNumber(%q, %d) = %d, %d, %d; want %d, %d, %d", shorten(s), at, gotN, gotNext, got, n, next, e)
	}
}

func checkString(t *testing.T, s string, at int, want string, next int, e api.Errno) {
	t.Helper()
	text, gotNext, got := ReadString(s, at)
	if text != want || gotNext != next || got != e {
		t.Errorf("ReadString(%q, %d) = %q, %d, %d; want %q, %d, %d", shorten(s), at, shorten(text), gotNext, got, shorten(want), next, e)
	}
}

func checkStrings(t *testing.T, s string, want []string, e api.Errno) {
	t.Helper()
	l, got := ReadStrings(s)
	if len(l) != len(want) || !slices.Equal(l, want) && len(l) > 0 || got != e {
		t.Errorf("ReadStrings(%q) = %d strings, %d; want %d strings, %d", shorten(s), len(l), got, len(want), e)
	}
}

func shorten(s string) string {
	if len(s) > 60 {
		return s[:60] + "..."
	}
	return s
}

// P2.1: Number, String and Strings.

func TestNumberExamples(t *testing.T) {
	for n, want := range map[int]string{
		0: "0 ", 1: "1 ", 9: "9 ", 10: "10 ", -1: "-1 ", -10: "-10 ", -12: "-12 ", 100: "100 ", -907: "-907 ",
		math.MaxInt32:     "2147483647 ",
		math.MinInt32:     "-2147483648 ",
		math.MaxInt32 + 1: "2147483648 ",
		math.MinInt32 - 1: "-2147483649 ",
		math.MaxInt64:     "9223372036854775807 ",
		math.MinInt64:     "-9223372036854775808 ",
	} {
		if s := Number(n); s != want {
			t.Errorf("Number(%d) = %q, want %q", n, s, want)
		}
	}
}

func TestStringExamples(t *testing.T) {
	for s, want := range map[string]string{
		"": "0:,", "abc": "3:abc,", ",": "1:,,", ":": "1::,", "1:a,": "4:1:a,,", "0123456789": "10:0123456789,",
		"é": "2:é,", "\xff": "1:\xff,", "\x00\n": "2:\x00\n,", "日本": "6:日本,",
	} {
		if got := String(s); got != want {
			t.Errorf("String(%q) = %q, want %q", s, got, want)
		}
	}
}

func TestStringCountsBytes(t *testing.T) {
	for n := range 1200 {
		for _, unit := range []string{"x", "é", "\xff"} {
			s := strings.Repeat(unit, n)
			if got := String(s); got != strconv.Itoa(len(s))+":"+s+"," {
				t.Errorf("String of %d times %q = %q", n, unit, shorten(got))
			}
		}
	}
}

func TestStringsExamples(t *testing.T) {
	for _, c := range []struct {
		l    []string
		want string
	}{
		{nil, ""},
		{[]string{}, ""},
		{[]string{""}, "0:,"},
		{[]string{"", ""}, "0:,0:,"},
		{[]string{"abc"}, "3:abc,"},
		{[]string{"a", "", "bc"}, "1:a,0:,2:bc,"},
		{[]string{"bc", "a"}, "2:bc,1:a,"},
		{[]string{"1:a,", ","}, "4:1:a,,1:,,"},
	} {
		if got := Strings(c.l...); got != c.want {
			t.Errorf("Strings(%q) = %q, want %q", c.l, got, c.want)
		}
	}
	if Strings() != "" || Strings("x") != "1:x," || Strings("x", "yz") != "1:x,2:yz," {
		t.Error("Strings of single arguments")
	}
}

func TestStringsConcatenatesEncodings(t *testing.T) {
	l := contents()
	before := slices.Clone(l)
	var want strings.Builder
	for _, s := range l {
		want.WriteString(String(s))
	}
	if Strings(l...) != want.String() {
		t.Error("Strings is not the concatenation of String")
	}
	if !slices.Equal(l, before) {
		t.Error("Strings changed its arguments")
	}
}

// P2.1: ReadNumber.

func TestReadNumberExamples(t *testing.T) {
	for _, c := range []struct {
		s           string
		at, n, next int
	}{
		{"0 ", 0, 0, 2}, {"7 ", 0, 7, 2}, {"-12 ", 0, -12, 4}, {"10 ", 0, 10, 3}, {"1000 ", 0, 1000, 5},
		{"-1 ", 0, -1, 3}, {"-10 ", 0, -10, 4}, {"1 2 3 ", 0, 1, 2}, {"1 2 3 ", 2, 2, 4}, {"1 2 3 ", 4, 3, 6},
		{"x-12 y", 1, -12, 5}, {"12 ", 1, 2, 3}, {"-12 ", 1, 12, 4}, {"07 ", 1, 7, 3}, {"-0 ", 1, 0, 3},
		{"0  ", 0, 0, 2}, {"\xff5 \xff", 1, 5, 3},
		{"2147483647 ", 0, math.MaxInt32, 11}, {"-2147483648 ", 0, math.MinInt32, 12},
		{"2147483646 ", 0, math.MaxInt32 - 1, 11}, {"-2147483647 ", 0, math.MinInt32 + 1, 12},
		{"2147483648 ", 1, 147483648, 11},
	} {
		checkNumber(t, c.s, c.at, c.n, c.next, api.OK)
	}
}

func TestReadNumberRejectsOtherSyntax(t *testing.T) {
	for _, text := range []string{
		"", "07", "00", "01", "-0", "-00", "-07", "-", "--1", "1-", "1-2", "+1", "+0", "x", "1x", "x1", "1x2",
		"1_0", "0x1", "0b1", "0o7", "1e3", "1.0", "1.", ".5", "1,", "1:", ":", ",", "\t1", "1\t", "\n", "1\n", "1\r",
		"\x00", "1\x00", "\xff", "/", "1/", "1;", "é", "٣", "1٣", "３", "\u0131", "−1", "\u00a01", "NaN", "Inf", "2:",
		strings.Repeat("0", 40), "0" + strings.Repeat("9", 40), "-0" + strings.Repeat("9", 40), strings.Repeat("9", 40) + "x",
	} {
		checkNumber(t, text+" ", 0, 0, 0, api.ErrSyntax)
		checkNumber(t, text+" 1 ", 0, 0, 0, api.ErrSyntax)
		checkNumber(t, "5 "+text+" ", 2, 0, 0, api.ErrSyntax)
	}
}

func TestReadNumberRejectsEveryOtherByte(t *testing.T) {
	for i := range 256 {
		b := string([]byte{byte(i)})
		if strings.Contains("0123456789 -", b) {
			continue
		}
		for _, text := range []string{b, b + "1", "1" + b, "1" + b + "1", "-" + b, "-" + b + "1", "-1" + b} {
			checkNumber(t, text+" ", 0, 0, 0, api.ErrSyntax)
		}
	}
}

func TestReadNumberReportsTheRange(t *testing.T) {
	for _, text := range []string{
		"2147483648", "2147483649", "2147483650", "-2147483649", "-2147483650", "4294967295", "4294967296", "4294967297",
		"-4294967296", "-4294967295", "9223372036854775807", "9223372036854775808", "-9223372036854775808", "-9223372036854775809",
		"18446744073709551615", "18446744073709551616", "18446744073709551617", "10000000000",
		strings.Repeat("9", 30), "-" + strings.Repeat("9", 30), "1" + strings.Repeat("0", 32), "1" + strings.Repeat("0", 10000),
	} {
		checkNumber(t, text+" ", 0, 0, 0, api.ErrRange)
		checkNumber(t, "x"+text+" 1 ", 1, 0, 0, api.ErrRange)
	}
}

func TestReadNumberReportsAMissingSpace(t *testing.T) {
	for _, s := range []string{"", "1", "12", "x", "-", "-0", "07", "2147483648", "1:", "1\t", "1\n", "1\xa0", "\u00a0", strings.Repeat("9", 30)} {
		checkNumber(t, s, 0, 0, 0, api.ErrShort)
		checkNumber(t, s, len(s), 0, 0, api.ErrShort)
		checkNumber(t, "1 "+s, 2, 0, 0, api.ErrShort)
	}
	checkNumber(t, "1 ", 2, 0, 0, api.ErrShort)
	checkNumber(t, " 1", 1, 0, 0, api.ErrShort)
}

func TestReadNumberReportsTheIndexFirst(t *testing.T) {
	for _, s := range []string{"", "1 ", "x ", "1", "2147483648 "} {
		for _, at := range []int{-1, -2, len(s) + 1, len(s) + 2, math.MinInt64, math.MaxInt64, math.MinInt32, math.MaxInt32} {
			checkNumber(t, s, at, 0, 0, api.ErrArgument)
		}
	}
}

// P2.1: ReadString.

func TestReadStringExamples(t *testing.T) {
	for _, c := range []struct {
		s    string
		at   int
		want string
		next int
	}{
		{"0:,", 0, "", 3}, {"3:abc,", 0, "abc", 6}, {"1:,,", 0, ",", 4}, {"1::,", 0, ":", 4}, {"4:1:a,,", 0, "1:a,", 7},
		{"4:1:a,,", 2, "a", 6}, {"xx3:a,b,c", 2, "a,b", 8}, {"1:a,2:bc,", 0, "a", 4}, {"1:a,2:bc,", 4, "bc", 9},
		{"10:0123456789,", 0, "0123456789", 14}, {"2:é,", 0, "é", 5}, {"1:\xff,", 0, "\xff", 4},
		{"2:\x00\n,x", 0, "\x00\n", 5}, {"11:a,", 1, "a", 5}, {"03:abc,", 1, "abc", 7}, {"-1:a,", 1, "a", 5},
		{"0:,,", 0, "", 3}, {"0:,0:,", 3, "", 6},
	} {
		checkString(t, c.s, c.at, c.want, c.next, api.OK)
	}
}

func TestReadStringRejectsOtherLengths(t *testing.T) {
	for _, length := range []string{
		"", "00", "01", "-0", "-1", "-3", "-", "+1", "+0", "--1", "x", "1x", "x1", " 1", "1 ", "1 1", "1_0", "0x1", "1e0", "1.0", "1,", ",",
		"\t1", "1\n", "\x00", "1\x00", "\xff", "/", ";", "٣", "３", "\u0131", "−1", "007",
		strings.Repeat("0", 40), "0" + strings.Repeat("9", 40), "-" + strings.Repeat("9", 40), strings.Repeat("9", 40) + "x",
	} {
		for _, rest := range []string{"", ",", "a,", "a", "abc,", strings.Repeat("a", 20) + ","} {
			checkString(t, length+":"+rest, 0, "", 0, api.ErrSyntax)
			checkString(t, "1:a,"+length+":"+rest, 4, "", 0, api.ErrSyntax)
		}
	}
}

func TestReadStringRejectsEveryOtherByte(t *testing.T) {
	for i := range 256 {
		b := string([]byte{byte(i)})
		if strings.Contains("0123456789:", b) {
			continue
		}
		for _, length := range []string{b, b + "1", "1" + b, "1" + b + "1"} {
			checkString(t, length+":aaaaaaaaaaaa,", 0, "", 0, api.ErrSyntax)
		}
	}
}

func TestReadStringReportsMissingBytes(t *testing.T) {
	for _, s := range []string{
		"", "3", "x", "-1", "03", "999", ",", "abc,", "0:", "1:", "1:a", "3:", "3:a", "3:ab", "3:abc", "3:a,", "3:ab,", "10:abc,",
		strings.Repeat("9", 30) + ":a,", "9223372036854775807:a,", "9223372036854775806:a,", "9223372036854775808:a,",
		"18446744073709551616:,", "18446744073709551617:a,", "4294967296:,", "4294967297:a,", "2147483648:a,", "1" + strings.Repeat("0", 5000) + ":a,",
	} {
		checkString(t, s, 0, "", 0, api.ErrShort)
		checkString(t, s, len(s), "", 0, api.ErrShort)
		checkString(t, "1:a,"+s, 4, "", 0, api.ErrShort)
	}
	checkString(t, "0:,", 3, "", 0, api.ErrShort)
	checkString(t, "3:abc,", 2, "", 0, api.ErrShort)
}

func TestReadStringReportsAMissingComma(t *testing.T) {
	checkString(t, "10:0123456789,", 1, "", 0, api.ErrSyntax)
	for _, s := range []string{"3:abcd", "0:a", "0::", "1:,a", "2:abc,", "0:0:,", "3:abc\n", "3:abc\x00,", "3:abc;,", "2:,,\xff"} {
		checkString(t, s, 0, "", 0, api.ErrSyntax)
		checkString(t, "x"+s, 1, "", 0, api.ErrSyntax)
	}
	for i := range 256 {
		if i != ',' {
			checkString(t, "2:ab"+string([]byte{byte(i)})+",", 0, "", 0, api.ErrSyntax)
		}
	}
}

func TestReadStringReportsTheIndexFirst(t *testing.T) {
	for _, s := range []string{"", "0:,", "x:,", "3:a", "1:ab", "1"} {
		for _, at := range []int{-1, -2, len(s) + 1, len(s) + 2, math.MinInt64, math.MaxInt64, math.MinInt32, math.MaxInt32} {
			checkString(t, s, at, "", 0, api.ErrArgument)
		}
	}
}

// P2.1: ReadStrings.

func TestReadStringsExamples(t *testing.T) {
	for _, c := range []struct {
		s    string
		want []string
		e    api.Errno
	}{
		{"", nil, api.OK},
		{"0:,", []string{""}, api.OK},
		{"0:,0:,", []string{"", ""}, api.OK},
		{"3:abc,", []string{"abc"}, api.OK},
		{"1:a,0:,2:bc,", []string{"a", "", "bc"}, api.OK},
		{"1:a,2:b", nil, api.ErrShort},
		{"1:a,2:bc", nil, api.ErrShort},
		{"1:a,2", nil, api.ErrShort},
		{"1:a,x", nil, api.ErrShort},
		{"1:a,,", nil, api.ErrShort},
		{"1:a, ", nil, api.ErrShort},
		{"1:a,1:bc", nil, api.ErrSyntax},
		{"1:a,02:bc,", nil, api.ErrSyntax},
		{"1:a,-1:,", nil, api.ErrSyntax},
		{"1:a,:,", nil, api.ErrSyntax},
		{"1:a,\n1:b,", nil, api.ErrSyntax},
		{"1:ab,2:c", nil, api.ErrSyntax},
		{"9:a,x:b,", nil, api.ErrShort},
		{strings.Repeat("9", 30) + ":,", nil, api.ErrShort},
		{"0:,x", nil, api.ErrShort},
	} {
		checkStrings(t, c.s, c.want, c.e)
	}
}

// The first netstring that cannot be read determines the error of the list.
func TestReadStringsReportsTheFirstError(t *testing.T) {
	broken := []string{"1:ab,", "x:,", "99:a,", "7", "-1:,", "01:a,"}
	for _, first := range broken {
		for _, second := range broken {
			for _, before := range []string{"", "1:a,", "0:,3:abc,"} {
				_, _, e := ReadString(first+second, 0)
				checkStrings(t, before+first+second, nil, e)
			}
		}
	}
}

// P2.1: every short string at every index, compared with another way to read it.

var (
	numberPattern = regexp.MustCompile(`^(0|-?[1-9][0-9]*)$`)
	lengthPattern = regexp.MustCompile(`^(0|[1-9][0-9]*)$`)
)

func otherReadNumber(s string, at int) (int, int, api.Errno) {
	if at < 0 || at > len(s) {
		return 0, 0, api.ErrArgument
	}
	text, _, found := strings.Cut(s[at:], " ")
	if !found {
		return 0, 0, api.ErrShort
	}
	if !numberPattern.MatchString(text) {
		return 0, 0, api.ErrSyntax
	}
	n, _ := new(big.Int).SetString(text, 10)
	if n.Cmp(big.NewInt(math.MinInt32)) < 0 || n.Cmp(big.NewInt(math.MaxInt32)) > 0 {
		return 0, 0, api.ErrRange
	}
	return int(n.Int64()), at + len(text) + 1, api.OK
}

func otherReadString(s string, at int) (string, int, api.Errno) {
	if at < 0 || at > len(s) {
		return "", 0, api.ErrArgument
	}
	text, rest, found := strings.Cut(s[at:], ":")
	if !found {
		return "", 0, api.ErrShort
	}
	if !lengthPattern.MatchString(text) {
		return "", 0, api.ErrSyntax
	}
	length, _ := new(big.Int).SetString(text, 10)
	if length.Cmp(big.NewInt(int64(len(rest)))) >= 0 {
		return "", 0, api.ErrShort
	}
	n := int(length.Int64())
	if rest[n] != ',' {
		return "", 0, api.ErrSyntax
	}
	return rest[:n], at + len(text) + 1 + n + 1, api.OK
}

func TestReadNumberOfAllShortStrings(t *testing.T) {
	for _, s := range words("01-9 x", 6) {
		for at := -1; at <= len(s)+1; at++ {
			n, next, e := otherReadNumber(s, at)
			checkNumber(t, s, at, n, next, e)
		}
	}
}

func TestReadStringOfAllShortStrings(t *testing.T) {
	for _, s := range words("012:,-", 6) {
		for at := -1; at <= len(s)+1; at++ {
			want, next, e := otherReadString(s, at)
			checkString(t, s, at, want, next, e)
		}
	}
}

func TestReadStringsOfAllShortStrings(t *testing.T) {
	for _, s := range words("01:,x", 7) {
		var want []string
		e := api.OK
		for at := 0; at < len(s) && e == api.OK; {
			var one string
			one, at, e = otherReadString(s, at)
			want = append(want, one)
		}
		if e != api.OK {
			want = nil
		}
		checkStrings(t, s, want, e)
	}
}

// P2.2: round trips.

func TestReadNumberInvertsNumber(t *testing.T) {
	for _, n := range numbers() {
		if n < math.MinInt32 || n > math.MaxInt32 {
			continue
		}
		for _, before := range surroundings {
			for _, after := range surroundings {
				s := before + Number(n)
				checkNumber(t, s+after, len(before), n, len(s), api.OK)
			}
		}
	}
}

// The encodings of greater numbers are read up to the space, and reported.
func TestReadNumberReportsNumbersOfMoreBits(t *testing.T) {
	for bit := 31; bit < 63; bit++ {
		for _, n := range []int{1 << bit, 1<<bit + 1, -1<<bit - 1} {
			checkNumber(t, Number(n), 0, 0, 0, api.ErrRange)
		}
	}
	for _, n := range []int{math.MaxInt64, math.MinInt64, math.MaxInt32 + 1, math.MinInt32 - 1} {
		checkNumber(t, Number(n), 0, 0, 0, api.ErrRange)
	}
}

func TestReadStringInvertsString(t *testing.T) {
	for _, want := range contents() {
		for _, before := range surroundings {
			for _, after := range surroundings {
				s := before + String(want)
				checkString(t, s+after, len(before), want, len(s), api.OK)
			}
		}
	}
}

func TestReadStringsInvertsStrings(t *testing.T) {
	all := contents()
	for i := range all {
		for _, l := range [][]string{all[i:min(i+1, len(all))], all[i:min(i+2, len(all))], all[i:min(i+7, len(all))]} {
			checkStrings(t, Strings(l...), l, api.OK)
		}
	}
	checkStrings(t, Strings(all...), all, api.OK)
	checkStrings(t, Strings(), nil, api.OK)
}

// Numbers and strings that follow each other are read one by one.
func TestMixedEncodingsAreReadBack(t *testing.T) {
	var b strings.Builder
	for i, s := range contents() {
		b.WriteString(Number(i - 20))
		b.WriteString(String(s))
	}
	at := 0
	for i, s := range contents() {
		n, next, e := ReadNumber(b.String(), at)
		if n != i-20 || e != api.OK {
			t.Fatalf("number %d: %d, %d", i, n, e)
		}
		got, end, e := ReadString(b.String(), next)
		if got != s || e != api.OK {
			t.Fatalf("string %d: %q, %d", i, shorten(got), e)
		}
		at = end
	}
	if at != b.Len() {
		t.Errorf("the end is at %d, want %d", at, b.Len())
	}
}

// P2.3: unambiguity.

func TestDifferentListsHaveDifferentEncodings(t *testing.T) {
	seen := map[string][]string{}
	note := func(l ...string) {
		s := Strings(l...)
		if other, found := seen[s]; found {
			t.Errorf("%q and %q are both encoded as %q", l, other, s)
		}
		seen[s] = slices.Clone(l)
	}
	all := append(words("0:,", 2), "1:a,", "1:,,", "0:,0:,", "a", "10", "x1:y,")
	note()
	for _, a := range all {
		note(a)
		for _, b := range all {
			note(a, b)
			for _, c := range all {
				note(a, b, c)
			}
		}
	}
}

func TestNoNetstringIsAProperPrefix(t *testing.T) {
	var encoded []string
	for _, s := range append(words("01:,", 4), contents()...) {
		encoded = append(encoded, String(s))
	}
	slices.Sort(encoded)
	encoded = slices.Compact(encoded)
	// If a string is a prefix of others, then the one that follows it in order is among them.
	for i := 1; i < len(encoded); i++ {
		if strings.HasPrefix(encoded[i], encoded[i-1]) {
			t.Errorf("%q is a prefix of %q", shorten(encoded[i-1]), shorten(encoded[i]))
		}
	}
}

func TestProperPrefixesAreShort(t *testing.T) {
	for _, want := range contents() {
		s := String(want)
		step := 1 + len(s)/1000
		for end := 0; end < len(s); end += step {
			checkString(t, s[:end], 0, "", 0, api.ErrShort)
			checkString(t, "1:a,"+s[:end], 4, "", 0, api.ErrShort)
			if end > 0 {
				checkStrings(t, s[:end], nil, api.ErrShort)
				checkStrings(t, "1:a,"+s[:end], nil, api.ErrShort)
			}
		}
		checkString(t, s[:len(s)-1], 0, "", 0, api.ErrShort)
	}
}
