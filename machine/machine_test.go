package machine

import (
	"math"
	"math/rand/v2"
	"slices"
	"strconv"
	"strings"
	"testing"

	"stele/api"
)

// The sizes as the document writes them.
const (
	words      = 262144
	mostValues = 256
	mostCalls  = 64
	mostSteps  = 100000000
	allSigns   = "+-*/%^<@!?:;,.$"
)

// A second machine: before a step it looks up in a table how many values the step needs and leaves, and it uses 64 bits.

// change is the number of values that an instruction removes from the data stack and puts on it.
type change struct{ takes, gives int }

// changes returns the changes of the instructions other than digits.
func changes() map[uint64]change {
	return map[uint64]change{
		' ': {}, '\n': {}, '$': {}, ';': {},
		'+': {2, 1}, '-': {2, 1}, '*': {2, 1}, '/': {2, 1}, '%': {2, 1}, '^': {2, 1}, '<': {2, 1},
		'@': {1, 1}, '!': {2, 0}, '?': {2, 0}, ':': {1, 0}, ',': {0, 1}, '.': {1, 0},
	}
}

// other is the second machine.
type other struct {
	memory      map[uint64]uint64
	data, calls []uint64
	pc          uint64
	last        uint64 // the word that the previous step executed
	input       []uint32
	read        int
	output      strings.Builder
}

// otherRun executes texts that fit into memory.
func otherRun(texts []api.Text, start int, input []uint32, steps int) api.Outcome {
	o := &other{memory: map[uint64]uint64{}, pc: uint64(start), input: input}
	for _, text := range texts {
		for i, c := range []byte(text.Code) {
			o.memory[uint64(text.At+i)] = uint64(c)
		}
	}
	table := changes()
	for n := 1; n <= steps; n++ {
		word := o.memory[o.pc]
		if o.traps(table, word) {
			return api.Outcome{Output: o.output.String(), Err: api.ErrTrap, Steps: n}
		}
		o.pc++
		o.execute(word, table[word])
		o.last = word
		if word == '$' {
			return api.Outcome{Output: o.output.String(), Steps: n}
		}
	}
	return api.Outcome{Output: o.output.String(), Err: api.ErrSteps, Steps: steps}
}

// figure reports whether a word is a digit.
func figure(word uint64) bool {
	return word < 256 && strings.IndexByte("0123456789", byte(word)) >= 0
}

// traps reports whether the next step traps.
func (o *other) traps(table map[uint64]change, word uint64) bool {
	if o.pc >= words {
		return true
	}
	if figure(word) {
		return !figure(o.last) && len(o.data) == mostValues
	}
	c, ok := table[word]
	if !ok || len(o.data) < c.takes || len(o.data)-c.takes+c.gives > mostValues {
		return true
	}
	switch word {
	case '/', '%':
		return o.top(1) == 0
	case '@', '!':
		return o.top(1) >= words
	case ':':
		return len(o.calls) == mostCalls
	case ';':
		return len(o.calls) == 0
	}
	return false
}

// top returns the value at a depth of the data stack, which is 1 for the top.
func (o *other) top(depth int) uint64 {
	return o.data[len(o.data)-depth]
}

// execute executes an instruction that does not trap.
func (o *other) execute(word uint64, c change) {
	if figure(word) {
		o.figure(word - '0')
		return
	}
	operands := slices.Clone(o.data[len(o.data)-c.takes:])
	o.data = o.data[:len(o.data)-c.takes]
	switch word {
	case '@':
		o.data = append(o.data, o.memory[operands[0]])
	case '!':
		o.memory[operands[1]] = operands[0]
	case '?':
		if operands[0] == 0 {
			o.pc = operands[1]
		}
	case ':':
		o.calls = append(o.calls, o.pc)
		o.pc = operands[0]
	case ';':
		o.pc = o.calls[len(o.calls)-1]
		o.calls = o.calls[:len(o.calls)-1]
	case ',':
		o.data = append(o.data, o.symbol())
	case '.':
		o.output.WriteByte(byte(operands[0] % 256))
	case ' ', '\n', '$':
	default:
		o.data = append(o.data, calculate(word, operands[0], operands[1]))
	}
}

// figure executes a digit.
func (o *other) figure(digit uint64) {
	if figure(o.last) {
		o.data[len(o.data)-1] = (o.top(1)*10 + digit) % (1 << 32)
	} else {
		o.data = append(o.data, digit)
	}
}

// symbol reads from the input.
func (o *other) symbol() uint64 {
	o.read++
	if o.read > len(o.input) {
		return 4294967295
	}
	return uint64(o.input[o.read-1])
}

// calculate returns what an instruction pushes that pops b and then a.
func calculate(word, a, b uint64) uint64 {
	switch word {
	case '+':
		return (a + b) % (1 << 32)
	case '-':
		return (a + 1<<32 - b) % (1 << 32)
	case '*':
		return a * b % (1 << 32)
	case '/':
		return a / b
	case '%':
		return a - a/b*b
	case '^':
		return (a | b) - (a & b)
	}
	if a < b {
		return 1
	}
	return 0
}

// Helpers.

// random returns the tests' source of random numbers.
func random() *rand.Rand {
	return rand.New(rand.NewPCG(17, 1))
}

// one returns a text at address 0.
func one(code string) []api.Text {
	return []api.Text{{Code: code}}
}

// checkRunOf compares Run with the wanted outcome.
func checkRunOf(t *testing.T, texts []api.Text, start int, input []uint32, steps int, want api.Outcome) {
	t.Helper()
	if got := Run(texts, start, input, steps); got != want {
		t.Fatalf("Run(%s, %d, %v, %d) = %#v, want %#v", show(texts), start, input, steps, got, want)
	}
}

// show returns the beginnings of texts, with their addresses.
func show(texts []api.Text) string {
	var b strings.Builder
	for _, text := range texts {
		b.WriteString(strconv.Itoa(text.At) + ":" + strconv.Quote(text.Code[:min(len(text.Code), 300)]) + " ")
	}
	return b.String()
}

// checkCode compares the outcome of a text at address 0 with the wanted one, which the second machine must have too.
func checkCode(t *testing.T, code string, input []uint32, output string, e api.Errno, steps int) {
	t.Helper()
	want := api.Outcome{Output: output, Err: e, Steps: steps}
	checkRunOf(t, one(code), 0, input, 100000, want)
	if got := otherRun(one(code), 0, input, 100000); got != want {
		t.Fatalf("the second machine has the outcome %#v for %.300q, want %#v", got, code, want)
	}
}

// checkSame compares Run with the second machine.
func checkSame(t *testing.T, texts []api.Text, start int, input []uint32, steps int) {
	t.Helper()
	checkRunOf(t, texts, start, input, steps, otherRun(texts, start, input, steps))
}

// printTop is code that outputs the four bytes of the top of the stack, the greatest first.
const printTop = " 200000!200000@16777216/.200000@65536/.200000@256/.200000@."

// bytesOf returns what printTop outputs for a number.
func bytesOf(n uint64) string {
	return string([]byte{byte(n >> 24), byte(n >> 16), byte(n >> 8), byte(n)})
}

// checkTop checks which number is on top of the stack after some code.
func checkTop(t *testing.T, code string, input []uint32, want uint64) {
	t.Helper()
	code += printTop + "$"
	got := Run(one(code), 0, input, 100000)
	if got.Err != api.OK || got.Output != bytesOf(want) {
		t.Fatalf("%q leaves %#v, want the bytes of %d", code, got, want)
	}
}

// literals returns code that pushes numbers.
func literals(numbers ...uint64) string {
	var list []string
	for _, n := range numbers {
		list = append(list, strconv.FormatUint(n, 10))
	}
	return strings.Join(list, " ")
}

// corners returns numbers at the limits of bytes, addresses and words.
func corners() []uint64 {
	return []uint64{0, 1, 2, 3, 7, 9, 10, 48, 127, 128, 255, 256, 257, 65535, 65536, 262143, 262144, 262145,
		1<<31 - 1, 1 << 31, 1<<31 + 1, 4294967285, 1<<32 - 2, 1<<32 - 1}
}

// P17.1: the instructions

func TestChapterExamples(t *testing.T) {
	checkCode(t, "12 30+.$", nil, "*", api.OK, 8)
	checkCode(t, "1 0/", nil, "", api.ErrTrap, 4)
	checkCode(t, "0:", nil, "", api.ErrTrap, 130)
}

func TestDigits(t *testing.T) {
	for digit := range uint64(10) {
		checkTop(t, literals(digit), nil, digit)
		checkTop(t, literals(10+digit), nil, 10+digit)
		checkTop(t, literals(digit*1000+123), nil, digit*1000+123)
	}
	checkTop(t, "0012", nil, 12)
	checkTop(t, "1 2", nil, 2)
	checkTop(t, "1\n2", nil, 2)
	checkTop(t, "1 2+3", nil, 3)
	checkTop(t, "5 1 2-+", nil, 4)
}

func TestNumbersWrapAround(t *testing.T) {
	checkTop(t, "4294967295", nil, 4294967295)
	checkTop(t, "4294967296", nil, 0)
	checkTop(t, "4294967297", nil, 1)
	checkTop(t, "42949672960", nil, 0)
	checkTop(t, "99999999999999999999", nil, 1661992959) // 10^20 - 1 modulo 2^32
}

// TestNumbersEnd begins a number after each kind of instruction: no digit before it belongs to it.
func TestNumbersEnd(t *testing.T) {
	checkTop(t, "7 0 6?5+", nil, 12)
	checkTop(t, "7 1 9?5+", nil, 12)
	checkTop(t, "7 4:5+", nil, 12)
	// A subroutine ends with a digit, and its caller goes on with one.
	checkCode(t, "9:2+.$   7;", nil, "\x09", api.OK, 8)
	checkTop(t, "7,5+", []uint32{9}, 14)
	checkTop(t, "7 800@5+", nil, 5)
	checkTop(t, "7 9 800!5+", nil, 12)
	checkCode(t, "7 65.5+.$", nil, "A\x0c", api.OK, 9)
	for _, sign := range "+-*/%^<" {
		checkTop(t, "7 9 3"+string(sign)+"5+", nil, calculate(uint64(sign), 9, 3)+5)
	}
}

func TestBlanksDoNothing(t *testing.T) {
	checkCode(t, " \n  \n$", nil, "", api.OK, 6)
	checkCode(t, "65 \n .$", nil, "A", api.OK, 7)
}

func TestTwoOperands(t *testing.T) {
	for _, sign := range "+-*/%^<" {
		for _, a := range corners() {
			for _, b := range corners() {
				code := literals(a, b) + string(sign)
				if b == 0 && (sign == '/' || sign == '%') {
					checkCode(t, code, nil, "", api.ErrTrap, len(code))
					continue
				}
				checkTop(t, code, nil, calculate(uint64(sign), a, b))
			}
		}
	}
}

func TestTwoOperandsAsWritten(t *testing.T) {
	for code, want := range map[string]uint64{
		"3 5+": 8, "4294967295 2+": 1,
		"5 3-": 2, "3 5-": 4294967294, "0 1-": 4294967295,
		"6 7*": 42, "65536 65536*": 0, "65537 65537*": 131073, "4294967295 4294967295*": 1,
		"7 2/": 3, "2 7/": 0, "4294967295 2/": 2147483647, "4294967295 4294967295/": 1,
		"7 2%": 1, "2 7%": 2, "4294967295 10%": 5,
		"6 3^": 5, "5 5^": 0, "4294967295 1^": 4294967294,
		"3 5<": 1, "5 3<": 0, "5 5<": 0, "1 4294967295<": 1, "4294967295 1<": 0, "2147483647 2147483648<": 1,
	} {
		checkTop(t, code, nil, want)
	}
}

func TestReadAndWriteMemory(t *testing.T) {
	r := random()
	for range 300 {
		at, value := 1000+r.Uint64N(190000), uint64(r.Uint32())
		checkTop(t, literals(value, at)+"!"+literals(at)+"@", nil, value)
		checkTop(t, literals(at)+"@", nil, 0)
		checkTop(t, literals(value, at)+"!"+literals(at+1)+"@", nil, 0)
		checkTop(t, literals(value, at)+"!"+literals(at-1)+"@", nil, 0)
		checkTop(t, literals(value, at)+"!1 "+literals(at)+"!"+literals(at)+"@", nil, 1)
	}
	checkTop(t, "4294967295 262143!262143@", nil, 4294967295)
	checkTop(t, "262143@", nil, 0)
	checkTop(t, "77 500!0@", nil, '7')
	checkTop(t, "1@", nil, '@')
}

func TestAddressesBeyondMemory(t *testing.T) {
	for _, at := range []uint64{words, words + 1, 1 << 20, 1 << 31, 1<<31 + 5, 1<<32 - 2, 1<<32 - 1} {
		code := "66." + literals(at) + "@"
		checkCode(t, code, nil, "B", api.ErrTrap, len(code))
		code = "66." + literals(5, at) + "!"
		checkCode(t, code, nil, "B", api.ErrTrap, len(code))
	}
	// The value that is written is no address.
	checkTop(t, "4294967295 500!500@", nil, 4294967295)
}

func TestPlacedBytes(t *testing.T) {
	var all []byte
	for c := range 256 {
		all = append(all, byte(c))
	}
	for c := range 256 {
		texts := []api.Text{{At: 5000, Code: string(all)}, {Code: strconv.Itoa(5000+c) + "@" + printTop + "$"}}
		if got := Run(texts, 0, nil, 1000); got.Output != bytesOf(uint64(c)) || got.Err != api.OK {
			t.Errorf("the byte %d is placed as %#v", c, got)
		}
	}
}

func TestEveryWord(t *testing.T) {
	for c := range 256 {
		code := string([]byte{byte(c)})
		checkSame(t, one("7 3 "+code+"$"), 0, nil, 50)
		// Where the stacks are empty and the next word is 0, few instructions do not trap.
		want := api.Outcome{Err: api.ErrTrap, Steps: 1}
		switch {
		case c == '$':
			want.Err = api.OK
		case slices.Contains([]byte("0123456789 \n,"), byte(c)):
			want.Steps = 2
		}
		checkRunOf(t, one(code), 0, nil, 50, want)
	}
}

// TestGreatWords executes words that are the code of an instruction only modulo 256 or 65536.
func TestGreatWords(t *testing.T) {
	for _, c := range "0123456789 \n" + allSigns {
		for _, more := range []uint64{256, 512, 65536, 1 << 24, 1 << 31, 1<<32 - 256} {
			code := literals(uint64(c)+more, 40) + "!0 40?"
			checkCode(t, code, nil, "", api.ErrTrap, len(code)+1)
		}
	}
}

func TestProgramsChangeThemselves(t *testing.T) {
	// A subtraction becomes an addition.
	checkCode(t, "43 12!7 5   -.$", nil, "\x0c", api.OK, 15)
	// A word that is no instruction becomes the last digit of 1009.
	checkCode(t, "57 8!100a.$", nil, "\xf1", api.OK, 11)
	// The next word becomes the end, and the end becomes a blank.
	checkCode(t, "36 5!a", nil, "", api.OK, 6)
	checkCode(t, "32 5!$66.$", nil, "B", api.OK, 10)
}

func TestJumps(t *testing.T) {
	checkCode(t, "0 9?65.$ 66.$", nil, "B", api.OK, 8)
	for _, v := range corners() {
		code := literals(v, 20) + "?65.$"
		code += strings.Repeat("a", 20-len(code)) + "66.$"
		want := "A"
		if v == 0 {
			want = "B"
		}
		if got := Run(one(code), 0, nil, 100); got.Output != want || got.Err != api.OK {
			t.Errorf("%q: %#v", code, got)
		}
	}
}

func TestJumpsOutOfMemory(t *testing.T) {
	for _, at := range []uint64{words, words + 1, 1 << 31, 1<<32 - 1} {
		code := "66.0 " + literals(at) + "?"
		checkCode(t, code, nil, "B", api.ErrTrap, len(code)+1)
		checkRunOf(t, one(code), 0, nil, len(code), api.Outcome{Output: "B", Err: api.ErrSteps, Steps: len(code)})
		code = "66." + literals(at) + ":"
		checkCode(t, code, nil, "B", api.ErrTrap, len(code)+1)
		checkRunOf(t, one(code), 0, nil, len(code), api.Outcome{Output: "B", Err: api.ErrSteps, Steps: len(code)})
		// No address is needed where no jump is made.
		code = "1 " + literals(at) + "?67.$"
		checkCode(t, code, nil, "C", api.OK, len(code))
	}
	checkRunOf(t, []api.Text{{Code: "0 262143?"}, {At: words - 1, Code: "$"}}, 0, nil, 100, api.Outcome{Steps: 10})
}

func TestCalls(t *testing.T) {
	checkCode(t, "9:65.$   66.;", nil, "BA", api.OK, 10)
	// A subroutine calls another one.
	checkCode(t, "10:.$     65 20:1+; 2+;", nil, "D", api.OK, 17)
	// What is on the data stack stays there.
	checkCode(t, "65 9:..$ 66;", nil, "BA", api.OK, 11)
}

func TestReturnStack(t *testing.T) {
	for depth := 1; depth <= mostCalls+3; depth++ {
		want := api.Outcome{Output: strings.Repeat("r", depth)}
		if depth > mostCalls {
			want = api.Outcome{Err: api.ErrTrap}
		}
		got := Run(one(nested(depth)), 0, nil, 100000)
		want.Steps = otherRun(one(nested(depth)), 0, nil, 100000).Steps
		if got != want {
			t.Fatalf("%d calls: %#v, want %#v", depth, got, want)
		}
	}
	checkCode(t, ";", nil, "", api.ErrTrap, 1)
	checkCode(t, "6:;$  ;", nil, "", api.ErrTrap, 4)
	// Every return makes room for another call.
	checkRunOf(t, one("7:0 0?a;"), 0, nil, 10000, api.Outcome{Err: api.ErrSteps, Steps: 10000})
}

// nested returns code whose subroutine calls itself until there are as many calls as wanted, and outputs an r at each return.
func nested(depth int) string {
	code := literals(uint64(depth), 900) + "!20:$"
	code += strings.Repeat(" ", 20-len(code))
	return code + "900@1-900!" + "900@ 41?" + "20:" + "114.;"
}

func TestInput(t *testing.T) {
	for _, n := range corners() {
		checkTop(t, ",", []uint32{uint32(n)}, n)
		checkTop(t, ",,", []uint32{5, uint32(n), 6}, n)
	}
	checkTop(t, ",", nil, 4294967295)
	checkTop(t, ",", []uint32{}, 4294967295)
	checkTop(t, ",,", []uint32{1}, 4294967295)
	checkTop(t, ",,,", []uint32{1}, 4294967295)
	checkCode(t, ",.,.,.$", []uint32{72, 361, 33, 34}, "Hi!", api.OK, 7)
	checkCode(t, ",.,.,.$", []uint32{0}, "\x00\xff\xff", api.OK, 7)
	checkCode(t, "$", []uint32{1, 2, 3}, "", api.OK, 1)
	// A symbol is pushed as a value of its own, also after a digit.
	checkTop(t, "1,+", []uint32{4}, 5)
}

func TestOutput(t *testing.T) {
	for _, n := range corners() {
		code := literals(n) + ".$"
		checkCode(t, code, nil, string([]byte{byte(n % 256)}), api.OK, len(code))
	}
	for n := range uint64(300) {
		code := literals(n) + ".$"
		checkCode(t, code, nil, string([]byte{byte(n % 256)}), api.OK, len(code))
	}
}

func TestLongOutput(t *testing.T) {
	got := Run(one("65.66.0 0?"), 0, nil, 1000000)
	if want := strings.Repeat("AB", 100000); got.Output != want || got.Err != api.ErrSteps || got.Steps != 1000000 {
		t.Errorf("%d bytes of output, %d, %d steps", len(got.Output), got.Err, got.Steps)
	}
}

// P17.1: traps of the stacks

func TestTooFewValues(t *testing.T) {
	need := map[rune]int{'+': 2, '-': 2, '*': 2, '/': 2, '%': 2, '^': 2, '<': 2, '@': 1, '!': 2, '?': 2, ':': 1, '.': 1}
	for sign, count := range need {
		for have := range count {
			code := strings.Repeat("9", have) + string(sign)
			checkCode(t, code, nil, "", api.ErrTrap, have+1)
			checkCode(t, "65.1 2+."+code, nil, "A\x03", api.ErrTrap, 8+have+1)
		}
	}
}

func TestDataStackLimit(t *testing.T) {
	full := strings.Repeat("1 ", mostValues)
	checkCode(t, full+"$", nil, "", api.OK, 513)
	checkCode(t, full+"2", nil, "", api.ErrTrap, 513)
	checkCode(t, full+",", []uint32{5}, "", api.ErrTrap, 513)
	checkCode(t, strings.Repeat(",", mostValues)+"$", nil, "", api.OK, 257)
	checkCode(t, strings.Repeat(",", mostValues)+",", nil, "", api.ErrTrap, 257)
	// A further digit of the last number needs no room.
	checkCode(t, full[:len(full)-1]+"23.$", nil, "{", api.OK, 515)
	for _, code := range []string{"+.$", "-.$", "*.$", "/.$", "%.$", "^.$", "<.$", "@.$", "!$", "?$", ".$", " \n$"} {
		checkSame(t, one(full+code), 0, nil, 1000)
		if got := Run(one(full+code), 0, nil, 1000); got.Err != api.OK {
			t.Errorf("%q on a full stack: %#v", code, got)
		}
	}
	checkCode(t, full+"..3 4 $", nil, "\x01\x01", api.OK, 512+2+5)
	checkCode(t, full+"..3 4 5", nil, "\x01\x01", api.ErrTrap, 512+2+5)
}

func TestWholeDataStack(t *testing.T) {
	var pushed, popped []byte
	var code strings.Builder
	for n := range mostValues {
		code.WriteString(strconv.Itoa(n) + " ")
		pushed = append(pushed, byte(n))
	}
	popped = slices.Clone(pushed)
	slices.Reverse(popped)
	got := Run(one(code.String()+strings.Repeat(".", mostValues)+"$"), 0, nil, 10000)
	if got.Output != string(popped) || got.Err != api.OK {
		t.Errorf("the stack is %#v", got)
	}
}

// P17.1: steps, limits and errors

func TestStepLimit(t *testing.T) {
	code := "72.105.$"
	outputs := []string{"", "", "", "H", "H", "H", "H", "Hi"}
	for steps := 1; steps < len(code); steps++ {
		checkRunOf(t, one(code), 0, nil, steps, api.Outcome{Output: outputs[steps], Err: api.ErrSteps, Steps: steps})
	}
	for _, steps := range []int{len(code), len(code) + 1, 1000, mostSteps} {
		checkRunOf(t, one(code), 0, nil, steps, api.Outcome{Output: "Hi", Steps: len(code)})
	}
}

func TestStepLimitBeforeATrap(t *testing.T) {
	code := "72.."
	checkRunOf(t, one(code), 0, nil, 3, api.Outcome{Output: "H", Err: api.ErrSteps, Steps: 3})
	for _, steps := range []int{4, 5, mostSteps} {
		checkRunOf(t, one(code), 0, nil, steps, api.Outcome{Output: "H", Err: api.ErrTrap, Steps: 4})
	}
}

func TestGreatestStepLimit(t *testing.T) {
	checkRunOf(t, one("0 0?"), 0, nil, mostSteps, api.Outcome{Err: api.ErrSteps, Steps: mostSteps})
}

func TestRefusedSteps(t *testing.T) {
	for _, steps := range []int{0, -1, -100, math.MinInt} {
		checkRunOf(t, one("65.$"), 0, nil, steps, api.Outcome{Err: api.ErrSteps})
	}
	for _, steps := range []int{mostSteps + 1, 1 << 32, 1<<32 + 5, math.MaxInt} {
		checkRunOf(t, one("65.$"), 0, nil, steps, api.Outcome{Err: api.ErrLimit})
	}
}

func TestRefusedStarts(t *testing.T) {
	for _, start := range []int{-1, -2, -words, math.MinInt, words, words + 1, 1 << 32, 1 << 33, math.MaxInt} {
		for _, steps := range []int{100, 0, -1, mostSteps + 1} {
			checkRunOf(t, one("65.$"), start, nil, steps, api.Outcome{Err: api.ErrRange})
			checkRunOf(t, nil, start, nil, steps, api.Outcome{Err: api.ErrRange})
		}
	}
}

func TestRefusedTexts(t *testing.T) {
	refused := []api.Text{
		{At: -1}, {At: -1, Code: "$"}, {At: -1, Code: "$$"}, {At: math.MinInt, Code: "$"}, {At: -words, Code: "$"},
		{At: words, Code: "$"}, {At: words + 1}, {At: words + 1, Code: "$"}, {At: words - 1, Code: "$$"}, {At: words - 9, Code: "1234567890"},
		{At: math.MaxInt}, {At: math.MaxInt, Code: "$"}, {At: math.MaxInt - 1, Code: "$$$$"}, {At: 1 << 32, Code: "$"},
		{At: 0, Code: strings.Repeat(" ", words+1)}, {At: 1, Code: strings.Repeat(" ", words)}, {At: 100, Code: strings.Repeat(" ", 2*words)},
	}
	for _, text := range refused {
		for _, steps := range []int{100, 0, -1, mostSteps + 1} {
			for _, texts := range [][]api.Text{{text}, {{Code: "65.$"}, text}, {text, {Code: "65.$"}}} {
				if got := Run(texts, 0, nil, steps); got != (api.Outcome{Err: api.ErrRange}) {
					t.Errorf("a text of %d bytes at %d: %#v", len(text.Code), text.At, got)
				}
			}
		}
	}
}

func TestTextsThatFit(t *testing.T) {
	for _, start := range []int{0, 1, words / 2, words - 1} {
		checkRunOf(t, []api.Text{{At: start, Code: "$"}}, start, nil, 9, api.Outcome{Steps: 1})
		checkRunOf(t, nil, start, nil, 9, api.Outcome{Err: api.ErrTrap, Steps: 1})
		checkRunOf(t, []api.Text{{At: start}, {At: words}}, start, nil, 9, api.Outcome{Err: api.ErrTrap, Steps: 1})
	}
	whole := strings.Repeat(" ", words-4) + "65.$"
	checkRunOf(t, one(whole), 0, nil, mostSteps, api.Outcome{Output: "A", Steps: words})
	checkRunOf(t, []api.Text{{At: words - 4, Code: "65.$"}}, words-4, nil, 9, api.Outcome{Output: "A", Steps: 4})
}

// TestEndOfMemory runs over the last address.
func TestEndOfMemory(t *testing.T) {
	for _, code := range []string{"1", " ", ",", "65.", "1 2+", "0123456789"} {
		texts := []api.Text{{At: words - len(code), Code: code}}
		checkSame(t, texts, words-len(code), nil, len(code))
		got := Run(texts, words-len(code), nil, 100)
		if got.Err != api.ErrTrap || got.Steps != len(code)+1 {
			t.Errorf("%q at the end of memory: %#v", code, got)
		}
	}
	// A call from the last word returns to a number that is no address.
	checkRunOf(t, []api.Text{{At: words - 2, Code: "0:"}, {Code: ";"}}, words-2, nil, 100, api.Outcome{Err: api.ErrTrap, Steps: 4})
}

func TestLaterTextsOverwrite(t *testing.T) {
	checkRunOf(t, []api.Text{{Code: "65.$"}, {At: 1, Code: "6"}}, 0, nil, 9, api.Outcome{Output: "B", Steps: 4})
	checkRunOf(t, []api.Text{{At: 1, Code: "6"}, {Code: "65.$"}}, 0, nil, 9, api.Outcome{Output: "A", Steps: 4})
	checkRunOf(t, []api.Text{{Code: "65.$"}, {Code: "66.$"}, {Code: "67"}}, 0, nil, 9, api.Outcome{Output: "C", Steps: 4})
	checkRunOf(t, []api.Text{{Code: "65.$"}, {At: 2, Code: "\x00"}}, 0, nil, 9, api.Outcome{Err: api.ErrTrap, Steps: 3})
	checkRunOf(t, []api.Text{{Code: "65.$"}, {Code: ""}}, 0, nil, 9, api.Outcome{Output: "A", Steps: 4})
}

func TestStartInsideAText(t *testing.T) {
	checkRunOf(t, one("65.66.$"), 3, nil, 9, api.Outcome{Output: "B", Steps: 4})
	checkRunOf(t, one("65.66.$"), 4, nil, 9, api.Outcome{Output: "\x06", Steps: 3})
	checkRunOf(t, []api.Text{{At: 10000, Code: "65.0 10012? $"}}, 10000, nil, 99, api.Outcome{Output: "A", Steps: 12})
}

func TestRunsAreIndependent(t *testing.T) {
	texts := []api.Text{{Code: "500@.,.66 500!67 0!$"}, {At: 100, Code: "a"}}
	kept := slices.Clone(texts)
	input := []uint32{7, 8, 9}
	for range 5 {
		checkRunOf(t, texts, 0, input, 1000, api.Outcome{Output: "\x00\x07", Steps: 20})
		if !slices.Equal(texts, kept) || !slices.Equal(input, []uint32{7, 8, 9}) {
			t.Fatal("a run changed its arguments")
		}
	}
}

func TestRunsAtTheSameTime(t *testing.T) {
	outcomes := make(chan api.Outcome)
	for n := range 8 {
		go func() {
			outcomes <- Run(one(",1000!1000@.0 6?"), 0, slices.Repeat([]uint32{uint32(n)}, 3), 10000)
		}()
	}
	var seen []byte
	for range 8 {
		got := <-outcomes
		if got.Err != api.ErrSteps || len(got.Output) < 100 || strings.Count(got.Output, got.Output[:1]) != len(got.Output) {
			t.Fatalf("%.20q, %d", got.Output, got.Err)
		}
		seen = append(seen, got.Output[0])
	}
	slices.Sort(seen)
	if string(seen) != "\x00\x01\x02\x03\x04\x05\x06\x07" {
		t.Errorf("the outputs are %q", seen)
	}
}

// P17.1: random programs

// randomCode returns random instructions; numbers are short, so that many of them are addresses of the text.
func randomCode(r *rand.Rand, length int) string {
	var b strings.Builder
	for b.Len() < length {
		switch r.IntN(8) {
		case 0, 1, 2:
			b.WriteString(strconv.Itoa(r.IntN(length)) + " ")
		case 3:
			b.WriteByte("0123456789"[r.IntN(10)])
		case 4:
			b.WriteString(strconv.Itoa(int(r.Uint32()>>r.IntN(32))) + "\n")
		case 5:
			b.WriteString("1,.0 " + strconv.Itoa(r.IntN(length)) + "?")
		default:
			b.WriteByte(allSigns[r.IntN(len(allSigns))])
		}
	}
	return b.String()
}

// randomInput returns a few random symbols.
func randomInput(r *rand.Rand) []uint32 {
	var input []uint32
	for range r.IntN(6) {
		input = append(input, r.Uint32()>>r.IntN(32))
	}
	return input
}

func TestRandomPrograms(t *testing.T) {
	r := random()
	stopped := map[api.Errno]int{}
	for range 6000 {
		texts := one(randomCode(r, 1+r.IntN(200)))
		for range r.IntN(3) {
			texts = append(texts, api.Text{At: r.IntN(200), Code: randomCode(r, 1+r.IntN(20))})
		}
		input, steps := randomInput(r), 1+r.IntN(500)
		start := r.IntN(len(texts[0].Code))
		checkSame(t, texts, start, input, steps)
		stopped[Run(texts, start, input, steps).Err]++
	}
	if len(stopped) != 3 || stopped[api.OK] < 20 || stopped[api.ErrTrap] < 20 || stopped[api.ErrSteps] < 20 {
		t.Errorf("the programs stopped with %v", stopped)
	}
}

func TestRandomBytes(t *testing.T) {
	r := random()
	for range 2000 {
		code := make([]byte, r.IntN(40))
		for i := range code {
			code[i] = byte(r.Uint32())
		}
		checkSame(t, one(string(code)), r.IntN(50), randomInput(r), 1+r.IntN(100))
	}
}

// P17.2: Signs, Literal and Check

func TestSigns(t *testing.T) {
	if got := Signs(); got != allSigns || len(got) != 15 {
		t.Errorf("the signs are %q", got)
	}
}

func TestLiteral(t *testing.T) {
	for n, want := range map[uint32]string{0: "0", 1: "1", 9: "9", 10: "10", 100: "100", 262144: "262144",
		2147483647: "2147483647", 2147483648: "2147483648", 4294967294: "4294967294", 4294967295: "4294967295"} {
		if got := Literal(n); got != want {
			t.Errorf("Literal(%d) = %q", n, got)
		}
	}
}

// checkChecked compares Check with the wanted result.
func checkChecked(t *testing.T, code string, at int, e api.Errno) {
	t.Helper()
	if got, f := Check(code); got != at || f != e {
		t.Errorf("Check(%.100q) = %d, %d, want %d, %d", code, got, f, at, e)
	}
}

func TestCheck(t *testing.T) {
	checkChecked(t, "", 0, api.OK)
	checkChecked(t, "0123456789 \n"+allSigns, 0, api.OK)
	checkChecked(t, "12 +\n$", 0, api.OK)
	checkChecked(t, "12=", 2, api.ErrSyntax)
	checkChecked(t, "1\t", 1, api.ErrSyntax)
	checkChecked(t, "1\r\n", 1, api.ErrSyntax)
	checkChecked(t, "a", 0, api.ErrSyntax)
	checkChecked(t, "+a-b", 1, api.ErrSyntax)
	checkChecked(t, "1\x00", 1, api.ErrSyntax)
	checkChecked(t, "ab", 0, api.ErrSyntax)
	checkChecked(t, "1 ä", 2, api.ErrSyntax)
	checkChecked(t, "12\xff", 2, api.ErrSyntax)
	checkChecked(t, strings.Repeat("1+", 300000), 0, api.OK)
	checkChecked(t, strings.Repeat("1+", 300000)+"#", 600000, api.ErrSyntax)
}

func TestCheckEveryByte(t *testing.T) {
	for c := range 256 {
		e := api.ErrSyntax
		if slices.Contains([]byte("0123456789 \n"+allSigns), byte(c)) {
			e = api.OK
		}
		checkChecked(t, string([]byte{byte(c)}), 0, e)
		for before := range 5 {
			code := "1 2+$"[:before] + string([]byte{byte(c)}) + "?;"
			if e == api.OK {
				checkChecked(t, code, 0, api.OK)
			} else {
				checkChecked(t, code, before, api.ErrSyntax)
			}
		}
	}
}

// TestCheckedWordsAreInstructions shows that Check accepts exactly the bytes that the machine executes.
func TestCheckedWordsAreInstructions(t *testing.T) {
	for c := range 256 {
		code := string([]byte{byte(c)})
		// The subroutine makes every instruction possible, and the limit stops after it.
		texts := []api.Text{{Code: "8:" + strings.Repeat(" ", 6) + "2 3 " + code}}
		_, e := Check(code)
		if got := Run(texts, 0, nil, 7); (got.Err == api.ErrTrap) != (e != api.OK) {
			t.Errorf("Check(%q) = %d, but the machine has the outcome %#v", code, e, got)
		}
	}
}

// P17.3: the consequences

func TestLiteralsPushNumbers(t *testing.T) {
	r := random()
	numbers := corners()
	for range 300 {
		numbers = append(numbers, uint64(r.Uint32()>>r.IntN(32)))
	}
	for _, n := range numbers {
		literal := Literal(uint32(n))
		for _, before := range []string{"", " ", "7 ", "7\n", "1 2+", ",", "7 900!", "5@", "1 0?"} {
			checkTop(t, before+literal, nil, n)
		}
	}
}

func TestLiteralsPushOneValue(t *testing.T) {
	for _, n := range corners() {
		code := "65 " + Literal(uint32(n)) + " 900!.."
		checkCode(t, code, nil, "A", api.ErrTrap, len(code))
	}
}

func TestGreaterStepLimits(t *testing.T) {
	r := random()
	for range 400 {
		texts, input := one(randomCode(r, 1+r.IntN(150))), randomInput(r)
		last := api.Outcome{Err: api.ErrSteps}
		for steps := 1; steps < 400; steps += 1 + r.IntN(60) {
			got := Run(texts, 0, input, steps)
			if !strings.HasPrefix(got.Output, last.Output) {
				t.Fatalf("%s: the output %q becomes %q", show(texts), last.Output, got.Output)
			}
			if last.Err != api.ErrSteps && got != last {
				t.Fatalf("%s: the outcome %#v becomes %#v", show(texts), last, got)
			}
			last = got
		}
	}
}

// straightLine returns the instructions of a program without addresses and traps.
func straightLine(r *rand.Rand) []string {
	var list []string
	values := 0
	for range 5 + r.IntN(60) {
		switch {
		case values >= 2 && r.IntN(3) > 0:
			list = append(list, string("+-*^<"[r.IntN(5)]))
			values--
		case values >= 1 && r.IntN(4) == 0:
			list = append(list, ".")
			values--
		case r.IntN(3) == 0:
			list = append(list, ",")
			values++
		default:
			list = append(list, Literal(r.Uint32()>>r.IntN(32)))
			values++
		}
	}
	return append(append(list, slices.Repeat([]string{"."}, values)...), "$")
}

// joined returns instructions with up to some more blanks between them than are needed.
func joined(r *rand.Rand, list []string, more int) string {
	var b strings.Builder
	afterNumber := false
	for _, instruction := range list {
		number := figure(uint64(instruction[0]))
		blanks := r.IntN(more + 1)
		if number && afterNumber {
			blanks++
		}
		for range blanks {
			b.WriteByte(" \n"[r.IntN(2)])
		}
		b.WriteString(instruction)
		afterNumber = number
	}
	return b.String()
}

func TestBlanksBetweenInstructions(t *testing.T) {
	r := random()
	for range 1000 {
		list, input := straightLine(r), randomInput(r)
		code := joined(r, list, 0)
		want := otherRun(one(code), 0, input, mostSteps)
		for more := range 5 {
			code = joined(r, list, more)
			checkRunOf(t, one(code), 0, input, mostSteps, api.Outcome{Output: want.Output, Steps: len(code)})
		}
	}
}

// TestBlanksInNumbers shows that blanks between the digits of a number matter.
func TestBlanksInNumbers(t *testing.T) {
	checkCode(t, "1 65.$", nil, "A", api.OK, 6)
	checkCode(t, "16 5.$", nil, "\x05", api.OK, 6)
	checkCode(t, "1\n65.$", nil, "A", api.OK, 6)
	checkCode(t, "165.$", nil, "\xa5", api.OK, 5)
}
