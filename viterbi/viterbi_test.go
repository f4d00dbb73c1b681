package viterbi

import (
	"math"
	"math/bits"
	"math/rand/v2"
	"strings"
	"testing"

	"stele/api"
)

// outputOf returns the cells that an encoder outputs for the inputs after the bits before.
// It multiplies by the generators 7 and 5 (octal): a cell is the parity of those of the last three bits that a generator selects.
func outputOf(before, inputs string) string {
	var output []byte
	var last uint
	for i, b := range []byte(before + inputs) {
		last = last<<1 | uint(b-'0')
		if i < len(before) {
			continue
		}
		for _, generator := range []uint{0o7, 0o5} {
			output = append(output, '0'+byte(bits.OnesCount(last&generator)%2))
		}
	}
	return string(output)
}

func wordOf(s string) string {
	return outputOf("", s+"00")
}

// bitsBefore returns the last two bits before each state.
func bitsBefore(state int) string {
	return []string{"00", "10", "01", "11"}[state]
}

// differences returns the number of readable cells of c that differ from those of a word.
func differences(c, word string) int {
	n := 0
	for i := range len(c) {
		if c[i] != '?' && c[i] != word[i] {
			n++
		}
	}
	return n
}

// stringsOf returns all strings over the alphabet with that length, in the order of the alphabet.
func stringsOf(alphabet string, length int) []string {
	all := []string{""}
	for range length {
		var longer []string
		for _, s := range all {
			for i := range len(alphabet) {
				longer = append(longer, s+alphabet[i:i+1])
			}
		}
		all = longer
	}
	return all
}

// result is what Decode returns together with OK.
type result struct {
	bits     string
	distance int
	unique   bool
}

// closest returns the first of the words with the least distance from c; bitsOf are the bits of the words.
func closest(c string, words, bitsOf []string) result {
	best := result{distance: len(c) + 1}
	for i, word := range words {
		switch n := differences(c, word); {
		case n < best.distance:
			best = result{bitsOf[i], n, true}
		case n == best.distance:
			best.unique = false
		}
	}
	return best
}

// path is the best one from the start to some state.
type path struct {
	exists bool
	inputs string
	cost   int
	unique bool
}

// better returns the better one of two paths to one state: the cheaper one, or the lexicographically lesser one.
func better(a, b path) path {
	switch {
	case !a.exists || b.exists && b.cost < a.cost:
		return b
	case !b.exists || a.cost < b.cost:
		return a
	}
	a.inputs = min(a.inputs, b.inputs)
	a.unique = false
	return a
}

// forwards finds the closest code word from the start, with the best path to every state.
func forwards(c string) result {
	paths := [4]path{{exists: true, unique: true}}
	for at := 0; at < len(c); at += 2 {
		var longer [4]path
		for state, p := range paths {
			if !p.exists {
				continue
			}
			for bit, input := range []string{"0", "1"} {
				cost := p.cost + differences(c[at:at+2], outputOf(bitsBefore(state), input))
				next := 2*bit + state/2
				longer[next] = better(longer[next], path{true, p.inputs + input, cost, p.unique})
			}
		}
		paths = longer
	}
	end := paths[0]
	return result{end.inputs[:len(end.inputs)-2], end.cost, end.unique}
}

func random() *rand.Rand {
	return rand.New(rand.NewPCG(10, 75))
}

func randomString(r *rand.Rand, alphabet string, length int) string {
	s := make([]byte, length)
	for i := range s {
		s[i] = alphabet[r.IntN(len(alphabet))]
	}
	return string(s)
}

// inverted returns c with the cells at the indices inverted.
func inverted(c string, indices ...int) string {
	b := []byte(c)
	for _, i := range indices {
		b[i] ^= '0' ^ '1'
	}
	return string(b)
}

// blanked returns c with the cells at the indices unreadable.
func blanked(c string, indices ...int) string {
	b := []byte(c)
	for _, i := range indices {
		b[i] = '?'
	}
	return string(b)
}

// short returns s such that an error message can show it.
func short(s string) string {
	if len(s) > 100 {
		return s[:100] + "..."
	}
	return s
}

func checkDecode(t *testing.T, c string, want result) {
	t.Helper()
	s, n, unique, e := Decode(c)
	if s != want.bits || n != want.distance || unique != want.unique || e != api.OK {
		t.Errorf("Decode(%q) = %q, %d, %v, %d, want %q, %d, %v", short(c), short(s), n, unique, e, short(want.bits), want.distance, want.unique)
	}
}

func checkNotDecoded(t *testing.T, c string, want api.Errno) {
	t.Helper()
	if s, n, unique, e := Decode(c); s != "" || n != 0 || unique || e != want {
		t.Errorf("Decode(%q) = %q, %d, %v, %d, want error %d", short(c), short(s), n, unique, e, want)
	}
}

func checkCosts(t *testing.T, c string, step int, want [4]int) {
	t.Helper()
	if costs, e := Costs(c, step); costs != want || e != api.OK {
		t.Errorf("Costs(%q, %d) = %v, %d, want %v", short(c), step, costs, e, want)
	}
}

func checkNoCosts(t *testing.T, c string, step int, want api.Errno) {
	t.Helper()
	if costs, e := Costs(c, step); costs != [4]int{} || e != want {
		t.Errorf("Costs(%q, %d) = %v, %d, want error %d", short(c), step, costs, e, want)
	}
}

// P10.1: Decode.

func TestDecodeExamples(t *testing.T) {
	for _, x := range []struct {
		c    string
		want result
	}{
		{"110011", result{"1", 1, true}}, {"??????", result{"0", 0, false}},
		{"0000", result{"", 0, true}}, {"1111", result{"", 4, true}}, {"????", result{"", 0, true}}, {"1?1?", result{"", 2, true}},
		{"000000", result{"0", 0, true}}, {"111011", result{"1", 0, true}}, {"000100", result{"0", 1, true}}, {"111111", result{"1", 1, true}},
		{"010011", result{"1", 2, true}}, {"000111", result{"0", 3, true}}, {"??1???", result{"1", 0, true}}, {"???0??", result{"0", 0, false}}, {"11??00", result{"0", 2, false}},
		{"00111011", result{"01", 0, true}}, {"11101100", result{"10", 0, true}}, {"11010111", result{"11", 0, true}}, {"????????", result{"00", 0, false}},
		{"0011110011", result{"011", 2, true}}, {"1111111111", result{"111", 3, true}},
	} {
		checkDecode(t, x.c, x.want)
	}
}

func TestDecodeOfAllShortCellStrings(t *testing.T) {
	for length := range 6 {
		bitsOf := stringsOf("01", length)
		var words []string
		for _, s := range bitsOf {
			words = append(words, wordOf(s))
		}
		alphabet := "01?"
		if length > 3 {
			alphabet = "01"
		}
		for _, c := range stringsOf(alphabet, 2*(length+2)) {
			checkDecode(t, c, closest(c, words, bitsOf))
		}
	}
}

// someCellStrings returns random cell strings of many lengths: any ones, and code words with some damage.
func someCellStrings() []string {
	r := random()
	var l []string
	for length := range 150 {
		n := 2 * (length + 2)
		l = append(l, randomString(r, "01", n), randomString(r, "01?", n), randomString(r, "01????", n), randomString(r, "0?", n), randomString(r, "1?", n))
		word := wordOf(randomString(r, "01", length))
		for range length / 10 {
			word = inverted(word, r.IntN(n))
		}
		l = append(l, word)
		for range length / 5 {
			word = blanked(word, r.IntN(n))
		}
		l = append(l, word, strings.Repeat("?", n), strings.Repeat("1", n), strings.Repeat("0", n))
	}
	return l
}

func TestDecodeOfLongerCellStrings(t *testing.T) {
	for _, c := range someCellStrings() {
		checkDecode(t, c, forwards(c))
	}
}

func TestTheLengthIsNotLimited(t *testing.T) {
	// Encode of layer 9 takes at most 65536 bits, but received cells may be longer.
	r := random()
	for _, length := range []int{65535, 65536, 65537, 200000} {
		s := randomString(r, "01", length)
		word := wordOf(s)
		checkDecode(t, word, result{s, 0, true})
		damaged := blanked(inverted(word, 0, length, len(word)-1), 9, length+9, len(word)-9)
		checkDecode(t, damaged, result{s, 3, true})
		checkCosts(t, word, 0, [4]int{0, 2, 3, 3})
	}
	zeros := strings.Repeat("0", 200000)
	checkDecode(t, strings.Repeat("??", len(zeros)+2), result{zeros, 0, false})
}

// otherStrings returns strings that contain bytes that are no cells.
func otherStrings() []string {
	l := []string{"é", "0é", "００", "\u0130", "\u0131", "0000\u0131", "????é", "0000 ", " 0000", "0000\n", "0b00", "-000", "+000", "0_000", "00 00", strings.Repeat("0", 1000) + "a"}
	for i := range 256 {
		b := string([]byte{byte(i)})
		if !strings.Contains("01?", b) {
			l = append(l, b, "0"+b, b+"1", "000"+b, b+"000", "00"+b+"00", "11?01"+b)
		}
	}
	return l
}

func TestOtherBytesComeFirst(t *testing.T) {
	for _, c := range otherStrings() {
		checkNotDecoded(t, c, api.ErrSyntax)
		for _, step := range []int{0, 1, -1, 9, math.MinInt, math.MaxInt} {
			checkNoCosts(t, c, step, api.ErrSyntax)
		}
	}
	for n := range 12 {
		for at := range n + 1 {
			c := strings.Repeat("0", at) + "x" + strings.Repeat("?", n-at)
			checkNotDecoded(t, c, api.ErrSyntax)
			checkNoCosts(t, c, 0, api.ErrSyntax)
			checkNoCosts(t, c, -1, api.ErrSyntax)
		}
	}
}

func TestLengthsOfNoCodeWord(t *testing.T) {
	for _, cell := range []string{"0", "1", "?"} {
		for _, n := range []int{0, 1, 2, 3, 5, 7, 9, 101, 100001} {
			c := strings.Repeat(cell, n)
			checkNotDecoded(t, c, api.ErrShort)
			// The length comes before the range of the step.
			for _, step := range []int{0, 1, n / 2, -1, n, math.MinInt, math.MaxInt} {
				checkNoCosts(t, c, step, api.ErrShort)
			}
		}
	}
}

// P10.1: Costs.

func TestCostsExamples(t *testing.T) {
	for _, x := range []struct {
		c    string
		step int
		want [4]int
	}{
		{"000000", 3, [4]int{0, -1, -1, -1}}, {"000000", 2, [4]int{0, 2, -1, -1}}, {"000000", 1, [4]int{0, 2, 3, 3}}, {"000000", 0, [4]int{0, 2, 3, 3}},
		{"0000", 0, [4]int{0, 2, 3, 3}}, {"0000", 1, [4]int{0, 2, -1, -1}}, {"0000", 2, [4]int{0, -1, -1, -1}},
		{"1111", 0, [4]int{4, 2, 1, 1}}, {"1111", 1, [4]int{2, 0, -1, -1}}, {"1111", 2, [4]int{0, -1, -1, -1}},
		{"????", 0, [4]int{0, 0, 0, 0}}, {"????", 1, [4]int{0, 0, -1, -1}}, {"????", 2, [4]int{0, -1, -1, -1}},
		{"??11", 1, [4]int{2, 0, -1, -1}}, {"1?11", 0, [4]int{3, 2, 0, 1}},
	} {
		checkCosts(t, x.c, x.step, x.want)
	}
}

// endings holds the outputs of all paths that begin in a state and end in state 0.
type endings [4][]string

func endingsOf(transitions int) endings {
	var l endings
	for state := range l {
		for _, inputs := range stringsOf("01", transitions) {
			if strings.HasSuffix(bitsBefore(state)+inputs, "00") {
				l[state] = append(l[state], outputOf(bitsBefore(state), inputs))
			}
		}
	}
	return l
}

// costs returns the least distance of c from the outputs of each state.
func (l endings) costs(c string) [4]int {
	least := [4]int{-1, -1, -1, -1}
	for state, outputs := range l {
		for _, output := range outputs {
			if n := differences(c, output); least[state] < 0 || n < least[state] {
				least[state] = n
			}
		}
	}
	return least
}

func TestCostsOfAllShortCellStrings(t *testing.T) {
	var endingsWith []endings
	for transitions := range 6 {
		endingsWith = append(endingsWith, endingsOf(transitions))
	}
	for _, length := range []int{4, 6, 8, 10} {
		alphabet := "01?"
		if length > 8 {
			alphabet = "01"
		}
		for _, c := range stringsOf(alphabet, length) {
			for step := range length/2 + 1 {
				checkCosts(t, c, step, endingsWith[length/2-step].costs(c[2*step:]))
			}
		}
	}
}

func TestCostsOfLongerCellStrings(t *testing.T) {
	r := random()
	all := endingsOf(11)
	for range 50 {
		c := randomString(r, "01?", 2*11)
		want := all.costs(c)
		checkCosts(t, c, 0, want)
		// Only the cells after the given transitions count.
		before := randomString(r, "01?", 2*r.IntN(100))
		checkCosts(t, before+c, len(before)/2, want)
	}
}

func TestCostsAfterAllTransitions(t *testing.T) {
	for _, c := range someCellStrings() {
		checkCosts(t, c, len(c)/2, [4]int{0, -1, -1, -1})
		for step := range len(c)/2 - 1 {
			costs, e := Costs(c, step)
			if e != api.OK || min(costs[0], costs[1], costs[2], costs[3]) < 0 {
				t.Errorf("Costs(%q, %d) = %v, %d: every state has a path of two or more transitions to the end", short(c), step, costs, e)
			}
		}
	}
}

func TestStepsOutOfRange(t *testing.T) {
	for _, n := range []int{2, 3, 4, 10, 100} {
		c := strings.Repeat("01", n)
		for _, step := range []int{-1, -2, -n, n + 1, n + 2, 2 * n, 2*n + 1, math.MinInt32, math.MaxInt32, -1 << 32, 1 << 32, 1<<32 + 1, math.MinInt, math.MinInt + 1, math.MaxInt, math.MaxInt - 1, math.MaxInt/2 + 1} {
			checkNoCosts(t, c, step, api.ErrRange)
		}
	}
}

// P10.2: Optimality.

// variants returns strings of bits that differ from s in one or two places.
func variants(s string) []string {
	var l []string
	for i := range len(s) {
		l = append(l, inverted(s, i))
		for j := range i {
			l = append(l, inverted(s, i, j))
		}
	}
	return l
}

func TestNoOtherBitsAreCloser(t *testing.T) {
	r := random()
	for _, c := range someCellStrings() {
		s, n, unique, e := Decode(c)
		if e != api.OK || len(s) != len(c)/2-2 || differences(c, wordOf(s)) != n {
			t.Fatalf("Decode(%q) = %q, %d, %v, %d", c, s, n, unique, e)
		}
		varied := min(len(s), 20)
		others := []string{randomString(r, "01", len(s)), randomString(r, "01", len(s))}
		for _, start := range variants(s[:varied]) {
			others = append(others, start+s[varied:])
		}
		for _, other := range others {
			m := differences(c, wordOf(other))
			if other != s && (m < n || m == n && (unique || other < s)) {
				t.Errorf("Decode(%q) = %q, %d, %v, but %q has the distance %d", short(c), short(s), n, unique, short(other), m)
			}
		}
	}
}

func TestTheLeastOfSeveralBits(t *testing.T) {
	for _, s := range stringsOf("01", 8) {
		// The cells that tell two strings apart are unreadable.
		for _, other := range variants(s) {
			a, b := wordOf(s), wordOf(other)
			c := a
			for i := range len(a) {
				if a[i] != b[i] {
					c = blanked(c, i)
				}
			}
			decoded, n, unique, e := Decode(c)
			if decoded > min(s, other) || n != 0 || unique || e != api.OK {
				t.Errorf("Decode(%q) = %q, %d, %v, %d, though %q and %q have the distance 0", c, decoded, n, unique, e, s, other)
			}
		}
	}
}

// P10.3: Correction.

// choose calls visit with all lists of at most that many increasing indices below n.
func choose(n, atMost int, visit func(indices []int)) {
	var extend func(indices []int, from int)
	extend = func(indices []int, from int) {
		visit(indices)
		if len(indices) == atMost {
			return
		}
		for i := from; i < n; i++ {
			extend(append(indices, i), i+1)
		}
	}
	extend(make([]int, 0, atMost), 0)
}

func TestTwoInvertedCellsAreCorrected(t *testing.T) {
	for length := range 9 {
		for _, s := range stringsOf("01", length) {
			word := wordOf(s)
			choose(len(word), 2, func(indices []int) {
				checkDecode(t, inverted(word, indices...), result{s, len(indices), true})
			})
		}
	}
}

func TestFourUnreadableCellsAreCorrected(t *testing.T) {
	for length := range 7 {
		for _, s := range stringsOf("01", length) {
			word := wordOf(s)
			choose(len(word), 4, func(indices []int) {
				checkDecode(t, blanked(word, indices...), result{s, 0, true})
			})
		}
	}
}

func TestLongWordsAreCorrected(t *testing.T) {
	r := random()
	for range 300 {
		s := randomString(r, "01", 1+r.IntN(1000))
		word := wordOf(s)
		at := r.IntN(len(word) - 3)
		first, second := r.IntN(len(word)), r.IntN(len(word)-1)
		if second >= first {
			second++
		}
		checkDecode(t, word, result{s, 0, true})
		checkDecode(t, inverted(word, first), result{s, 1, true})
		checkDecode(t, inverted(word, first, second), result{s, 2, true})
		checkDecode(t, inverted(word, at, at+1), result{s, 2, true})
		checkDecode(t, blanked(word, at, at+1, at+2, at+3), result{s, 0, true})
		checkDecode(t, blanked(word, at, at+3, first, second), result{s, 0, true})
	}
}

func TestDistantDamageIsCorrected(t *testing.T) {
	r := random()
	s := randomString(r, "01", 2000)
	word := wordOf(s)
	damaged := word
	for at := 0; at < len(word); at += 40 {
		damaged = inverted(damaged, at, at+1)
	}
	checkDecode(t, damaged, result{s, differences(damaged, word), true})
}

// P10.4: Consistency.

func TestTheDistanceIsTheCostOfTheStart(t *testing.T) {
	l := someCellStrings()
	for _, length := range []int{4, 6, 8} {
		l = append(l, stringsOf("01?", length)...)
	}
	for _, c := range l {
		_, n, _, e := Decode(c)
		costs, f := Costs(c, 0)
		if n != costs[0] || e != api.OK || f != api.OK {
			t.Errorf("%q: the distance is %d, %d, and the costs are %v, %d", short(c), n, e, costs, f)
		}
	}
}
