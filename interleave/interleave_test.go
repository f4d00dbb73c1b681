package interleave

import (
	"math"
	"math/big"
	"math/rand/v2"
	"slices"
	"strings"
	"testing"

	"stele/api"
)

// sources returns the positions from which the bytes of the interleaved form come, row by row.
func sources(length, rows int) []int {
	var list []int
	// From as many rows as positions on, every row has one position or none.
	rows = min(rows, length)
	for r := range rows {
		for at := r; at < length; at += rows {
			list = append(list, at)
		}
	}
	return list
}

// otherInterleave picks the bytes in the order of the definition.
func otherInterleave(s string, rows int) string {
	var picked []byte
	for _, at := range sources(len(s), rows) {
		picked = append(picked, s[at])
	}
	return string(picked)
}

func random() *rand.Rand {
	return rand.New(rand.NewPCG(11, 8))
}

// randomBytes returns a string of any bytes, no two neighbors of which are equal.
func randomBytes(r *rand.Rand, length int) string {
	s := make([]byte, length)
	for i := range s {
		s[i] = byte(r.IntN(256))
		if i > 0 && s[i] == s[i-1] {
			s[i]++
		}
	}
	return string(s)
}

// numbersOfRows returns numbers of rows for a string with that length: small ones, those near the length, and great ones.
func numbersOfRows(length int) []int {
	l := []int{100, 1000, 65536, math.MaxInt32, math.MaxInt - 1, math.MaxInt}
	for rows := 1; rows <= 20; rows++ {
		l = append(l, rows)
	}
	for _, rows := range []int{length / 3, length / 2, length - 1, length, length + 1, 2 * length} {
		if rows > 20 {
			l = append(l, rows)
		}
	}
	return l
}

var invalidRows = []int{0, -1, -2, -7, -8, math.MinInt32, -math.MaxInt, math.MinInt + 1, math.MinInt}

// short returns s such that an error message can show it.
func short(s string) string {
	if len(s) > 100 {
		return s[:100] + "..."
	}
	return s
}

func checkIndex(t *testing.T, i, length, rows, want int) {
	t.Helper()
	if n, e := Index(i, length, rows); n != want || e != api.OK {
		t.Errorf("Index(%d, %d, %d) = %d, %d, want %d", i, length, rows, n, e, want)
	}
}

func checkNoIndex(t *testing.T, i, length, rows int, want api.Errno) {
	t.Helper()
	if n, e := Index(i, length, rows); n != 0 || e != want {
		t.Errorf("Index(%d, %d, %d) = %d, %d, want error %d", i, length, rows, n, e, want)
	}
}

func checkInterleave(t *testing.T, s string, rows int, want string) {
	t.Helper()
	if c, e := Interleave(s, rows); c != want || e != api.OK {
		t.Errorf("Interleave(%q, %d) = %q, %d, want %q", short(s), rows, short(c), e, short(want))
	}
}

func checkDeinterleave(t *testing.T, s string, rows int, want string) {
	t.Helper()
	if c, e := Deinterleave(s, rows); c != want || e != api.OK {
		t.Errorf("Deinterleave(%q, %d) = %q, %d, want %q", short(s), rows, short(c), e, short(want))
	}
}

// P11.1: Interleave and Deinterleave.

func TestExamples(t *testing.T) {
	for _, c := range []struct {
		s    string
		rows int
		want string
	}{
		{"", 1, ""}, {"", 3, ""}, {"", math.MaxInt, ""},
		{"a", 1, "a"}, {"a", 2, "a"}, {"a", math.MaxInt, "a"},
		{"ab", 1, "ab"}, {"ab", 2, "ab"}, {"ab", 3, "ab"},
		{"abc", 1, "abc"}, {"abc", 2, "acb"}, {"abc", 3, "abc"}, {"abc", 4, "abc"},
		{"abcd", 2, "acbd"}, {"abcd", 3, "adbc"}, {"abcde", 2, "acebd"}, {"abcde", 3, "adbec"}, {"abcde", 4, "aebcd"},
		{"abcdef", 2, "acebdf"}, {"abcdef", 3, "adbecf"}, {"abcdef", 4, "aebfcd"}, {"abcdef", 5, "afbcde"},
		{"abcdefg", 3, "adgbecf"}, {"abcdefg", 7, "abcdefg"}, {"abcdefg", 8, "abcdefg"},
		{"0?1?0", 2, "010??"}, {"\x00\xff\x80", 2, "\x00\x80\xff"}, {"é", 1, "é"},
		// é and è differ in the second one of their two bytes.
		{"éè", 2, "\xc3\xc3\xa9\xa8"},
	} {
		checkInterleave(t, c.s, c.rows, c.want)
		checkDeinterleave(t, c.want, c.rows, c.s)
	}
}

func TestTheRowsFollowEachOther(t *testing.T) {
	r := random()
	for length := range 150 {
		for _, rows := range numbersOfRows(length) {
			s := randomBytes(r, length)
			c := otherInterleave(s, rows)
			checkInterleave(t, s, rows, c)
			checkDeinterleave(t, c, rows, s)
		}
	}
}

func TestLongStrings(t *testing.T) {
	r := random()
	for _, length := range []int{836, 852, 1000, 65535, 65536, 65537, 1000003} {
		s := randomBytes(r, length)
		for _, rows := range numbersOfRows(length) {
			c := otherInterleave(s, rows)
			checkInterleave(t, s, rows, c)
			checkDeinterleave(t, c, rows, s)
		}
	}
}

func TestAllByteValues(t *testing.T) {
	all := make([]byte, 256)
	for i := range all {
		all[i] = byte(i)
	}
	for _, rows := range numbersOfRows(len(all)) {
		c := otherInterleave(string(all), rows)
		checkInterleave(t, string(all), rows, c)
		checkDeinterleave(t, c, rows, string(all))
	}
}

func TestOneRowAndManyRowsChangeNothing(t *testing.T) {
	r := random()
	for length := range 100 {
		s := randomBytes(r, length)
		for _, rows := range []int{1, max(1, length), length + 1, 2*length + 1, math.MaxInt32, math.MaxInt} {
			checkInterleave(t, s, rows, s)
			checkDeinterleave(t, s, rows, s)
		}
	}
}

func TestInvalidNumbersOfRows(t *testing.T) {
	for _, rows := range invalidRows {
		for _, s := range []string{"", "a", "abcdefg", "\x00\xff", strings.Repeat("01?", 1000)} {
			if c, e := Interleave(s, rows); c != "" || e != api.ErrArgument {
				t.Errorf("Interleave(%q, %d) = %q, %d", short(s), rows, short(c), e)
			}
			if c, e := Deinterleave(s, rows); c != "" || e != api.ErrArgument {
				t.Errorf("Deinterleave(%q, %d) = %q, %d", short(s), rows, short(c), e)
			}
		}
	}
}

// P11.1: Index.

func TestIndexExamples(t *testing.T) {
	for i, want := range []int{0, 3, 5, 1, 4, 6, 2} {
		checkIndex(t, i, 7, 3, want)
	}
	for _, c := range []struct{ i, length, rows, want int }{
		{0, 1, 1, 0}, {0, 1, math.MaxInt, 0}, {2, 3, 1, 2}, {2, 3, 3, 2}, {2, 3, 4, 2}, {1, 3, 2, 2},
		{0, 836, 8, 0}, {1, 836, 8, 105}, {4, 836, 8, 420}, {5, 836, 8, 524}, {7, 836, 8, 732}, {8, 836, 8, 1}, {831, 836, 8, 835}, {832, 836, 8, 104}, {835, 836, 8, 419},
	} {
		checkIndex(t, c.i, c.length, c.rows, c.want)
	}
}

func TestIndexOfEveryPosition(t *testing.T) {
	for length := range 150 {
		for _, rows := range numbersOfRows(length) {
			for at, i := range sources(length, rows) {
				checkIndex(t, i, length, rows, at)
			}
		}
	}
}

// bigIndex returns the number of the positions in the rows before that of i, and of those before i in its row.
func bigIndex(i, length, rows int) *big.Int {
	number := func(n int) *big.Int { return big.NewInt(int64(n)) }
	row := i % rows
	n := new(big.Int).Mul(number(row), number(length/rows))
	n.Add(n, number(min(row, length%rows)))
	return n.Add(n, number(i/rows))
}

func TestIndexOfGreatNumbers(t *testing.T) {
	r := random()
	numbers := []int{1, 2, 3, 7, 8, math.MaxInt16, 1 << 16, math.MaxInt32, 1 << 32, 3037000499, 3037000500, 1 << 61, 1 << 62, 1<<62 + 1, math.MaxInt - 2, math.MaxInt - 1, math.MaxInt}
	for range 100 {
		numbers = append(numbers, 1+r.IntN(math.MaxInt), 1+r.IntN(1<<r.IntN(60)))
	}
	for _, length := range numbers {
		for _, rows := range numbers {
			for _, i := range []int{0, length / 3, length / 2, length - 1, min(rows-1, length-1), min(rows, length-1), r.IntN(length)} {
				want := bigIndex(i, length, rows)
				if !want.IsInt64() {
					t.Fatalf("the index of %d for %d, %d is %s", i, length, rows, want)
				}
				checkIndex(t, i, length, rows, int(want.Int64()))
			}
		}
	}
	checkIndex(t, math.MaxInt-1, math.MaxInt, 1, math.MaxInt-1)
	checkIndex(t, math.MaxInt-1, math.MaxInt, math.MaxInt, math.MaxInt-1)
	checkIndex(t, 1, math.MaxInt, 2, 1<<62)
	checkIndex(t, math.MaxInt-1, math.MaxInt, 2, 1<<62-1)
}

func TestIndexOutOfRange(t *testing.T) {
	for _, length := range []int{0, 1, 2, 7, 836, math.MaxInt - 1, math.MaxInt} {
		for _, rows := range numbersOfRows(8) {
			for _, i := range []int{-1, -2, -8, math.MinInt, math.MinInt + 1, length, math.MaxInt} {
				checkNoIndex(t, i, length, rows, api.ErrRange)
			}
			if length < math.MaxInt {
				checkNoIndex(t, length+1, length, rows, api.ErrRange)
			}
		}
	}
}

func TestInvalidArgumentsOfIndexComeFirst(t *testing.T) {
	numbers := []int{math.MinInt, math.MinInt + 1, -8, -1, 0, 1, 3, 7, 8, math.MaxInt - 1, math.MaxInt}
	for _, i := range numbers {
		for _, n := range numbers {
			for _, rows := range invalidRows {
				checkNoIndex(t, i, n, rows, api.ErrArgument)
			}
			for _, length := range []int{-1, -2, -7, math.MinInt, math.MinInt + 1} {
				checkNoIndex(t, i, length, n, api.ErrArgument)
			}
		}
	}
}

// P11.2: permutation.

func TestDeinterleaveInvertsInterleave(t *testing.T) {
	r := random()
	for length := range 200 {
		s := randomBytes(r, length)
		for _, rows := range numbersOfRows(length) {
			c, e := Interleave(s, rows)
			if e != api.OK || len(c) != length {
				t.Fatalf("Interleave(%q, %d) = %q, %d", short(s), rows, short(c), e)
			}
			checkDeinterleave(t, c, rows, s)
			d, e := Deinterleave(s, rows)
			if e != api.OK || len(d) != length {
				t.Fatalf("Deinterleave(%q, %d) = %q, %d", short(s), rows, short(d), e)
			}
			checkInterleave(t, d, rows, s)
		}
	}
}

func TestIndexIsAPermutation(t *testing.T) {
	for _, length := range []int{0, 1, 2, 3, 5, 8, 13, 64, 97, 100, 836, 852, 65536} {
		for _, rows := range numbersOfRows(length) {
			taken := make([]bool, length)
			for i := range length {
				at, e := Index(i, length, rows)
				if e != api.OK || at < 0 || at >= length || taken[at] {
					t.Fatalf("Index(%d, %d, %d) = %d, %d", i, length, rows, at, e)
				}
				taken[at] = true
			}
		}
	}
}

func TestBytesAreMovedToTheirIndex(t *testing.T) {
	r := random()
	for _, length := range []int{1, 2, 3, 5, 8, 13, 64, 97, 100, 836, 852} {
		s := randomBytes(r, length)
		for _, rows := range numbersOfRows(length) {
			c, _ := Interleave(s, rows)
			d, _ := Deinterleave(s, rows)
			for i := range length {
				at, e := Index(i, length, rows)
				if e != api.OK || c[at] != s[i] || d[i] != s[at] {
					t.Fatalf("byte %d of %d with %d rows is not at %d, %d", i, length, rows, at, e)
				}
			}
		}
	}
}

// P11.3: spreading.

// origins returns the positions from which those of the interleaved form come, as Index tells.
func origins(t *testing.T, length, rows int) []int {
	t.Helper()
	from := make([]int, length)
	for i := range length {
		at, e := Index(i, length, rows)
		if e != api.OK || at < 0 || at >= length {
			t.Fatalf("Index(%d, %d, %d) = %d, %d", i, length, rows, at, e)
		}
		from[at] = i
	}
	return from
}

// apart returns how far two positions are apart.
func apart(a, b int) int {
	return max(a-b, b-a)
}

func TestClosePositionsComeFromDistantOnes(t *testing.T) {
	for _, length := range []int{1, 2, 3, 4, 5, 6, 7, 8, 9, 15, 16, 17, 31, 32, 33, 60, 97, 100, 128, 416, 836, 852} {
		for _, rows := range numbersOfRows(length) {
			from := origins(t, length, rows)
			for a := range length {
				for b := a + 1; b < length && b-a < length/rows-1; b++ {
					if apart(from[a], from[b]) < rows {
						t.Fatalf("length %d, %d rows: the positions %d and %d come from %d and %d", length, rows, a, b, from[a], from[b])
					}
				}
			}
		}
	}
}

func TestPositionsFartherApartMayComeFromNeighbors(t *testing.T) {
	for _, c := range []struct{ length, rows int }{{836, 8}, {832, 8}, {7, 3}, {9, 3}, {100, 7}, {100, 10}} {
		from := origins(t, c.length, c.rows)
		least := c.length
		for a := range c.length {
			for b := a + 1; b < c.length; b++ {
				if apart(from[a], from[b]) < c.rows {
					least = min(least, b-a)
				}
			}
		}
		if least != c.length/c.rows-1 {
			t.Errorf("length %d, %d rows: positions that are %d apart come from close ones", c.length, c.rows, least)
		}
	}
}

func TestBurstsAreSpread(t *testing.T) {
	for _, c := range []struct{ length, rows int }{{836, 8}, {836, 7}, {852, 8}, {100, 10}, {97, 5}, {6, 2}, {5, 1}} {
		burst := c.length/c.rows - 1
		for start := range c.length - burst + 1 {
			damaged := strings.Repeat("0", start) + strings.Repeat("?", burst) + strings.Repeat("0", c.length-burst-start)
			s, e := Deinterleave(damaged, c.rows)
			if e != api.OK || strings.Count(s, "?") != burst {
				t.Fatalf("Deinterleave(%q, %d) = %q, %d", short(damaged), c.rows, short(s), e)
			}
			last := -c.rows
			for at := range c.length {
				if s[at] != '?' {
					continue
				}
				if at-last < c.rows {
					t.Fatalf("length %d, %d rows: a burst at %d damages %d and %d", c.length, c.rows, start, last, at)
				}
				last = at
			}
		}
	}
}

// P11.4: transposition.

func TestDeinterleavingIsInterleavingWithTheColumns(t *testing.T) {
	r := random()
	for rows := 1; rows <= 30; rows++ {
		for cols := 1; cols <= 30; cols++ {
			s := randomBytes(r, rows*cols)
			c, e := Interleave(s, cols)
			if e != api.OK {
				t.Fatalf("Interleave(%q, %d): error %d", short(s), cols, e)
			}
			checkDeinterleave(t, s, rows, c)
			checkInterleave(t, c, rows, s)
			checkIndexOfTransposition(t, rows, cols)
		}
	}
}

// checkIndexOfTransposition checks that the index with cols rows reverses that with rows rows.
func checkIndexOfTransposition(t *testing.T, rows, cols int) {
	t.Helper()
	length := rows * cols
	for i := range length {
		at, e := Index(i, length, rows)
		if e != api.OK {
			t.Fatalf("Index(%d, %d, %d): error %d", i, length, rows, e)
		}
		checkIndex(t, at, length, cols, i)
	}
}

func TestASquareIsItsOwnTransposition(t *testing.T) {
	r := random()
	for rows := 1; rows <= 40; rows++ {
		s := randomBytes(r, rows*rows)
		c, e := Interleave(s, rows)
		if e != api.OK {
			t.Fatalf("Interleave(%q, %d): error %d", short(s), rows, e)
		}
		checkInterleave(t, c, rows, s)
		checkDeinterleave(t, s, rows, c)
	}
}

func TestTheRowsOfATableBecomeItsColumns(t *testing.T) {
	r := random()
	for _, c := range []struct{ rows, cols int }{{1, 9}, {9, 1}, {2, 3}, {3, 2}, {8, 104}, {104, 8}, {8, 52}, {255, 257}} {
		table := make([]string, c.cols)
		for k := range table {
			table[k] = randomBytes(r, c.rows)
		}
		columns := make([]string, 0, c.rows)
		for k := range c.rows {
			var column []byte
			for _, line := range table {
				column = append(column, line[k])
			}
			columns = append(columns, string(column))
		}
		checkInterleave(t, strings.Join(table, ""), c.rows, strings.Join(columns, ""))
		checkDeinterleave(t, strings.Join(columns, ""), c.rows, strings.Join(table, ""))
		checkDeinterleave(t, strings.Join(table, ""), c.cols, strings.Join(columns, ""))
	}
}

// The other way to compute the interleaved form is a permutation itself.
func TestSources(t *testing.T) {
	for length := range 100 {
		for _, rows := range numbersOfRows(length) {
			l := sources(length, rows)
			slices.Sort(l)
			for at, i := range l {
				if at != i {
					t.Fatalf("length %d, %d rows: %d is missing", length, rows, at)
				}
			}
			if len(l) != length {
				t.Fatalf("length %d, %d rows: %d positions", length, rows, len(l))
			}
		}
	}
}
