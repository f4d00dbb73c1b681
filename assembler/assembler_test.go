package assembler

import (
	"fmt"
	"math"
	"math/rand/v2"
	"regexp"
	"slices"
	"strconv"
	"strings"
	"testing"

	"stele/api"
	"stele/machine"
)

// The sizes as the document writes them.
const (
	words      = 262144
	mostText   = 40000
	mostName   = 40
	signsOfAll = "+-*/%^<@!?:;,.$"
)

// The kinds of tokens as expressions.
var (
	definition   = regexp.MustCompile(`^([a-z][a-z0-9_]{0,39}):$`)
	reference    = regexp.MustCompile(`^&([a-z][a-z0-9_]{0,39})$`)
	instructions = regexp.MustCompile(`^[-0-9+*/%^<@!?:;,.$]+$`)
	comment      = regexp.MustCompile(`#.*`)
)

// A second assembler: it works with regular expressions, and first computes where every addition begins.

// otherWord is a token with its line.
type otherWord struct {
	text string
	line int
}

// otherSplit removes the comments of each line, and then takes what is between the spaces.
func otherSplit(src string) []otherWord {
	var list []otherWord
	for n, line := range strings.Split(src, "\n") {
		for part := range strings.SplitSeq(comment.ReplaceAllString(line, ""), " ") {
			if part != "" {
				list = append(list, otherWord{part, n + 1})
			}
		}
	}
	return list
}

// outcome is what Assemble returns.
type outcome struct {
	text   string
	labels []api.Symbol
	line   int
	e      api.Errno
}

func (o outcome) equals(p outcome) bool {
	return o.text == p.text && slices.Equal(o.labels, p.labels) && o.line == p.line && o.e == p.e
}

func assemble(src string, origin int) outcome {
	text, labels, line, e := Assemble(src, origin)
	return outcome{text, labels, line, e}
}

func otherAssemble(src string, origin int) outcome {
	if origin < 0 || origin > words-1 {
		return outcome{e: api.ErrRange}
	}
	list := otherSplit(src)
	defined := map[string]bool{}
	for _, w := range list {
		if m := definition.FindStringSubmatch(w.text); m != nil {
			defined[m[1]] = true
		}
	}
	at := origin
	last := byte(0)
	where := map[string]int{}
	var labels []api.Symbol
	var parts []string
	for _, w := range list {
		if m := definition.FindStringSubmatch(w.text); m != nil {
			if _, ok := where[m[1]]; ok {
				return outcome{line: w.line, e: api.ErrExists}
			}
			where[m[1]] = at
			labels = append(labels, api.Symbol{Name: m[1], At: at})
			continue
		}
		begin, end, length := w.text[0], w.text[len(w.text)-1], len(w.text)
		if m := reference.FindStringSubmatch(w.text); m != nil {
			if !defined[m[1]] {
				return outcome{line: w.line, e: api.ErrName}
			}
			begin, end, length = '0', '0', 6
		} else if !instructions.MatchString(w.text) {
			return outcome{line: w.line, e: api.ErrSyntax}
		}
		if strings.IndexByte("0123456789", last) >= 0 && strings.IndexByte("0123456789", begin) >= 0 {
			parts = append(parts, " ")
			at++
		}
		parts = append(parts, w.text)
		at += length
		last = end
	}
	for i, p := range parts {
		if name, ok := strings.CutPrefix(p, "&"); ok {
			parts[i] = fmt.Sprintf("%06d", where[name])
		}
	}
	text := strings.Join(parts, "")
	if len(text) > mostText {
		return outcome{e: api.ErrLimit}
	}
	return outcome{text: text, labels: labels}
}

// randomSource returns tokens of few labels, some of them invalid if so asked, with various spaces and comments.
func randomSource(r *rand.Rand, tokens int, valid bool) string {
	var b strings.Builder
	defined := 0
	for range tokens {
		switch n := r.IntN(24); {
		case n < 3:
			b.WriteString("l" + strconv.Itoa(defined) + "_:")
			defined++
		case n < 6:
			b.WriteString("&l0_")
		case n < 7 && !valid:
			b.WriteString([]string{"a:", "a:", "a:", "a:", "a:", "&a", "&l1_", "=", "a", "A:", "&", "\t", "a:b", "&a:", "1a"}[r.IntN(15)])
		case n < 14:
			b.WriteString(strconv.Itoa(r.IntN(1000)))
		default:
			for range 1 + r.IntN(3) {
				b.WriteByte((signsOfAll + "0123456789")[r.IntN(25)])
			}
		}
		b.WriteString(randomGap(r))
	}
	if valid {
		return "l0_: " + strings.ReplaceAll(b.String(), "l0_:", "m:")
	}
	return b.String()
}

// randomGap returns something that separates two tokens.
func randomGap(r *rand.Rand) string {
	return []string{" ", " ", " ", "\n", "  ", "\n\n", " # note &x y:\n", "#\n", "# a # b\n \n"}[r.IntN(9)]
}

// P18.1: the result of every function is the specified one.

func TestAssembleExamples(t *testing.T) {
	for _, c := range []struct {
		src    string
		origin int
		want   outcome
	}{
		{"0 &end ? 65 . end: $", 10000, outcome{text: "0 010012?65.$", labels: []api.Symbol{{Name: "end", At: 10012}}}},
		{"", 0, outcome{}},
		{" \n \n", 0, outcome{}},
		{"# nothing", 0, outcome{}},
		{"1", 0, outcome{text: "1"}},
		{"1 2 3", 0, outcome{text: "1 2 3"}},
		{"1 + 2", 0, outcome{text: "1+2"}},
		{"1+ +2", 0, outcome{text: "1++2"}},
		{"12 34+5 6", 0, outcome{text: "12 34+5 6"}},
		{"+-*/%^<@!?:;,.$0123456789", 0, outcome{text: "+-*/%^<@!?:;,.$0123456789"}},
		{":", 0, outcome{text: ":"}},
		{"1:", 0, outcome{text: "1:"}},
		{":a:", 0, outcome{line: 1, e: api.ErrSyntax}},
		{"a: &a", 5, outcome{text: "000005", labels: []api.Symbol{{Name: "a", At: 5}}}},
		{"&a a:", 5, outcome{text: "000011", labels: []api.Symbol{{Name: "a", At: 11}}}},
		{"z9_: &z9_", 262143, outcome{text: "262143", labels: []api.Symbol{{Name: "z9_", At: 262143}}}},
		{"b: 1 a: 2 c:", 0, outcome{text: "1 2", labels: []api.Symbol{{Name: "b"}, {Name: "a", At: 1}, {Name: "c", At: 3}}}},
	} {
		if got := assemble(c.src, c.origin); !got.equals(c.want) {
			t.Errorf("%q: %#v, not %#v", c.src, got, c.want)
		}
	}
}

func TestAssembleLikeTheSecondAssembler(t *testing.T) {
	r := rand.New(rand.NewPCG(18, 1))
	seen := map[api.Errno]int{}
	for i := range 20000 {
		src := randomSource(r, r.IntN(14), i%2 == 0)
		origin := r.IntN(words)
		got, want := assemble(src, origin), otherAssemble(src, origin)
		if !got.equals(want) {
			t.Fatalf("%q at %d: %#v, not %#v", src, origin, got, want)
		}
		seen[got.e]++
	}
	for _, e := range []api.Errno{api.OK, api.ErrSyntax, api.ErrName, api.ErrExists} {
		if seen[e] < 30 {
			t.Errorf("error %d occurred %d times", e, seen[e])
		}
	}
}

func TestAssembleArbitraryBytes(t *testing.T) {
	r := rand.New(rand.NewPCG(18, 2))
	const frequent = "ab_&:#  \n\n019+$Z=\t\r\x00\xff"
	for range 50000 {
		src := make([]byte, r.IntN(12))
		for i := range src {
			src[i] = frequent[r.IntN(len(frequent))]
			if r.IntN(10) == 0 {
				src[i] = byte(r.Uint32())
			}
		}
		got, want := assemble(string(src), 77), otherAssemble(string(src), 77)
		if !got.equals(want) {
			t.Fatalf("%q: %#v, not %#v", src, got, want)
		}
	}
}

func TestEveryByteAsToken(t *testing.T) {
	for c := range 256 {
		src := string([]byte{byte(c)})
		got := assemble("a: "+src, 0)
		want := outcome{line: 1, e: api.ErrSyntax}
		switch {
		case strings.Contains(signsOfAll+"0123456789", src):
			want = outcome{text: src, labels: []api.Symbol{{Name: "a"}}}
		case strings.Contains(" \n#", src):
			want = outcome{labels: []api.Symbol{{Name: "a"}}}
		}
		if !got.equals(want) {
			t.Errorf("%q: %#v", src, got)
		}
	}
}

func TestSignsAreThoseOfTheMachine(t *testing.T) {
	if signs != machine.Signs() {
		t.Error(signs)
	}
}

func TestLabelNames(t *testing.T) {
	long := strings.Repeat("x", mostName)
	for _, name := range []string{"a", "z", "a0", "a9", "a_", "az", "a_0_z", "z__", long, "a" + strings.Repeat("_", mostName-1)} {
		want := outcome{text: "000013 000013", labels: []api.Symbol{{Name: name, At: 13}}}
		if got := assemble("&"+name+" &"+name+" "+name+":", 0); !got.equals(want) {
			t.Errorf("%q: %#v", name, got)
		}
	}
	for _, name := range []string{"0a", "_", "_a", "A", "aA", "Z", "a.", "a-b", "a`", "a{", "`", "{", "a/", "a:", "a&", "é", "a\xff", "a\x00", "a\t", "a\r", long + "x", long + "0", strings.Repeat(long, 9)} {
		invalid := outcome{line: 2, e: api.ErrSyntax}
		if got := assemble("a:\n&"+name, 0); !got.equals(invalid) {
			t.Errorf("reference %q: %#v", name, got)
		}
		if got := assemble("1\n"+name+":", 0); !got.equals(invalid) {
			t.Errorf("definition %q: %#v", name, got)
		}
	}
	for _, name := range []string{"", "0", "9", "+"} {
		if got := assemble("a:\n&"+name, 0); !got.equals(outcome{line: 2, e: api.ErrSyntax}) {
			t.Errorf("reference %q: %#v", name, got)
		}
		if got := assemble(name+":", 0); !got.equals(outcome{text: name + ":"}) {
			t.Errorf("instructions %q: %#v", name, got)
		}
	}
}

func TestOriginIsAnAddress(t *testing.T) {
	for _, origin := range []int{math.MinInt, -1, words, words + 1, math.MaxInt} {
		for _, src := range []string{"", "1", "=", "&a", strings.Repeat("+", mostText+1)} {
			if got := assemble(src, origin); !got.equals(outcome{e: api.ErrRange}) {
				t.Errorf("%d: %#v", origin, got)
			}
		}
	}
	for _, origin := range []int{0, 1, words - 1} {
		// An address may lie beyond memory: only the origin must be in it.
		want := outcome{text: "+" + fmt.Sprintf("%06d", origin+7), labels: []api.Symbol{{Name: "a", At: origin + 7}}}
		if got := assemble("+&a a:", origin); !got.equals(outcome{line: 1, e: api.ErrSyntax}) {
			t.Errorf("%d: %#v", origin, got)
		}
		if got := assemble("+ &a a:", origin); !got.equals(want) {
			t.Errorf("%d: %#v", origin, got)
		}
	}
}

func TestFirstErrorWins(t *testing.T) {
	for _, c := range []struct {
		src  string
		line int
		e    api.Errno
	}{
		{"=", 1, api.ErrSyntax},
		{"\n\n =", 3, api.ErrSyntax},
		{"&a\n=", 1, api.ErrName},
		{"=\n&a", 1, api.ErrSyntax},
		{"a:\na: =", 2, api.ErrExists},
		{"a:\n= a:", 2, api.ErrSyntax},
		{"a:\n&b\na:\n=", 2, api.ErrName},
		{"a:\na:\n&b\n=", 2, api.ErrExists},
		{"a: b:\n\nb: a:", 3, api.ErrExists},
		{"a:\na:\na:", 2, api.ErrExists},
		{"&a\n#a:", 1, api.ErrName},
		{"&a\na:\na:", 3, api.ErrExists},
		{"&a # a:\n= a:", 2, api.ErrSyntax},
		{"&a b:", 1, api.ErrName},
		{"&aa a:", 1, api.ErrName},
		{strings.Repeat("+", mostText+1) + "\n&a", 2, api.ErrName},
		{strings.Repeat("1 ", mostText) + "\n1a", 2, api.ErrSyntax},
		{"a:\n" + strings.Repeat("1 ", mostText) + "\na:", 3, api.ErrExists},
	} {
		if got := assemble(c.src, 0); !got.equals(outcome{line: c.line, e: c.e}) {
			t.Errorf("%.30q: %.30q %v %d %d", c.src, got.text, got.labels, got.line, got.e)
		}
	}
}

func TestLongestText(t *testing.T) {
	for _, c := range []struct {
		src    string
		length int
	}{
		{strings.Repeat("+", mostText), mostText},
		{strings.Repeat("+", mostText) + " a:", mostText},
		{strings.Repeat("+ ", mostText) + "# and a comment", mostText},
		{strings.Repeat("1 ", mostText/2) + "+", mostText},
		{strings.Repeat("1 ", mostText/2-2) + "+ + + &a a:", -1},
		{strings.Repeat("+", mostText-6) + " &a a:", mostText},
		{strings.Repeat("+", mostText-7) + "0 &a a:", -1},
		{strings.Repeat("+", mostText-5) + " &a a:", -1},
		{strings.Repeat("+", mostText+1), -1},
		{strings.Repeat("1 ", mostText/2+1), -1},
		{"a: " + strings.Repeat("&a ", 1000000) + "b: &b", -1},
	} {
		got := assemble(c.src, words-1)
		if c.length < 0 && !got.equals(outcome{e: api.ErrLimit}) || c.length >= 0 && (got.e != api.OK || len(got.text) != c.length) {
			t.Errorf("%.20q: %d characters, %v %d %d", c.src, len(got.text), got.labels, got.line, got.e)
		}
	}
}

func TestWords(t *testing.T) {
	for _, c := range []struct {
		src  string
		want []string
	}{
		{"", nil},
		{" \n  \n", nil},
		{"#", nil},
		{"# a b\n#c", nil},
		{"a", []string{"a"}},
		{" a  b\nc\n\n d ", []string{"a", "b", "c", "d"}},
		{"a#b c\nd", []string{"a", "d"}},
		{"a##b\n#\nd#", []string{"a", "d"}},
		{"&x: 1=\t\r \xff\x00 a::", []string{"&x:", "1=\t\r", "\xff\x00", "a::"}},
	} {
		if got := Words(c.src); !slices.Equal(got, c.want) {
			t.Errorf("%q: %q", c.src, got)
		}
	}
}

func TestWordsLikeTheSecondAssembler(t *testing.T) {
	r := rand.New(rand.NewPCG(18, 3))
	for range 20000 {
		src := randomSource(r, r.IntN(10), false)
		if r.IntN(2) == 0 {
			src = src[r.IntN(len(src)+1):]
		}
		var want []string
		for _, w := range otherSplit(src) {
			want = append(want, w.text)
		}
		if got := Words(src); !slices.Equal(got, want) {
			t.Fatalf("%q: %q, not %q", src, got, want)
		}
	}
}

func TestDisassemble(t *testing.T) {
	for _, c := range []struct {
		code, want string
		e          api.Errno
	}{
		{"12 3+", "12 3 +", api.OK},
		{"", "", api.OK},
		{" \n ", "", api.OK},
		{"0", "0", api.OK},
		{"00012", "00012", api.OK},
		{"1\n2\n", "1 2", api.OK},
		{"+-12", "+ - 12", api.OK},
		{"\n +  1 ", "+ 1", api.OK},
		{"0123456789+-*/%^<@!?:;,.$", "0123456789 + - * / % ^ < @ ! ? : ; , . $", api.OK},
		{"1#", "", api.ErrSyntax},
		{"#1", "", api.ErrSyntax},
		{"1 2 &", "", api.ErrSyntax},
		{"a:", "", api.ErrSyntax},
		{"1\t2", "", api.ErrSyntax},
	} {
		if got, e := Disassemble(c.code); got != c.want || e != c.e {
			t.Errorf("%q: %q %d", c.code, got, e)
		}
	}
	for c := range 256 {
		code := "1" + string([]byte{byte(c)}) + "+"
		_, e := Disassemble(code)
		if _, want := machine.Check(code); e != want {
			t.Errorf("byte %d: %d", c, e)
		}
	}
}

func TestDisassembleLikeAnExpression(t *testing.T) {
	r := rand.New(rand.NewPCG(18, 4))
	part := regexp.MustCompile(`[0-9]+|[^0-9 \n]`)
	for range 20000 {
		code := make([]byte, r.IntN(30))
		for i := range code {
			code[i] = (signsOfAll + "0123456789012345  \n")[r.IntN(34)]
		}
		want := strings.Join(part.FindAllString(string(code), -1), " ")
		if got, e := Disassemble(string(code)); got != want || e != api.OK {
			t.Fatalf("%q: %q %d", code, got, e)
		}
	}
}

// P18.2: a label has the address at which the text of the tokens after its definition begins, and moves with the origin.

func TestLabelsAreWhereTheTextGoesOn(t *testing.T) {
	r := rand.New(rand.NewPCG(18, 5))
	for range 3000 {
		src := randomSource(r, 20, true)
		origin := r.IntN(words)
		got := assemble(src, origin)
		if got.e != api.OK {
			t.Fatalf("%q: %d", src, got.e)
		}
		list := otherSplit(src)
		next := 0
		for i, w := range list {
			if !strings.HasSuffix(w.text, "_:") && w.text != "m:" {
				continue
			}
			var before []string
			for _, b := range list[:i] {
				before = append(before, b.text)
			}
			// The references of the tokens before the definition may be to l0_, which is the first token.
			front := assemble("l0_: "+strings.Join(before[min(1, len(before)):], " "), origin)
			if front.e != api.OK || got.labels[next].At != origin+len(front.text) || !strings.HasPrefix(got.text, front.text) {
				t.Fatalf("%q: label %d at %d after %q", src, next, got.labels[next].At, front.text)
			}
			if got.labels[next].Name+":" != w.text {
				t.Fatalf("%q: label %d is %q", src, next, got.labels[next].Name)
			}
			next++
		}
		if next != len(got.labels) {
			t.Fatalf("%q: %d labels, not %d", src, len(got.labels), next)
		}
	}
}

func TestOriginShiftsAllAddresses(t *testing.T) {
	r := rand.New(rand.NewPCG(18, 6))
	for range 3000 {
		src := randomSource(r, 20, true)
		from, to := r.IntN(words), r.IntN(words)
		a, b := assemble(src, from), assemble(src, to)
		for i := range a.labels {
			a.labels[i].At += to - from
		}
		var parts []string
		for _, w := range otherSplit(src) {
			if w.text == "&l0_" {
				parts = append(parts, fmt.Sprintf("%06d", to))
			} else if !strings.HasSuffix(w.text, "_:") && w.text != "m:" {
				parts = append(parts, w.text)
			}
		}
		if want := assemble(strings.Join(parts, " "), 0); b.text != want.text || len(a.text) != len(b.text) {
			t.Fatalf("%q: %q at %d, %q at %d", src, b.text, to, a.text, from)
		}
		if !slices.Equal(a.labels, b.labels) || a.e != b.e || a.line != b.line {
			t.Fatalf("%q: %v, not %v", src, b.labels, a.labels)
		}
	}
	for _, origin := range []int{0, 9, words - 1} {
		if got := assemble("1\n&no\n", origin); !got.equals(outcome{line: 2, e: api.ErrName}) {
			t.Errorf("%d: %#v", origin, got)
		}
	}
}

func TestAssembledProgramsRun(t *testing.T) {
	const src = `
		# counts from 9 down to 0
		9 100000 ! loop:
		100000 @ 48 + .
		100000 @ 1 - 100000 !
		100000 @ 4294967295 ^ &end ?
		0 &loop ?
		end: $`
	for _, origin := range []int{0, 1, 99000, 200000} {
		text, labels, line, e := Assemble(strings.ReplaceAll(src, "\t", " "), origin)
		if e != api.OK || len(labels) != 2 {
			t.Fatal(labels, line, e)
		}
		got := machine.Run([]api.Text{{At: origin, Code: text}}, origin, nil, 10000)
		if got.Err != api.OK || got.Output != "9876543210" {
			t.Errorf("at %d: %#v", origin, got)
		}
	}
}

// P18.3: comments, additional spaces and line feeds change only the numbers of lines.

func TestGapsChangeOnlyLines(t *testing.T) {
	r := rand.New(rand.NewPCG(18, 7))
	for i := range 10000 {
		list := otherSplit(randomSource(r, r.IntN(14), i%2 == 0))
		narrow, wide := "", randomGap(r)
		for _, w := range list {
			narrow += w.text + " "
			wide += w.text + randomGap(r) + strings.Repeat(randomGap(r), r.IntN(2))
		}
		a, b := assemble(narrow, 500), assemble(wide, 500)
		if a.text != b.text || !slices.Equal(a.labels, b.labels) || a.e != b.e || (a.line == 0) != (b.line == 0) {
			t.Fatalf("%q: %#v\n%q: %#v", narrow, a, wide, b)
		}
		if a.line > 1 || b.line > 0 && b.line != otherAssemble(wide, 500).line {
			t.Fatalf("%q: line %d; %q: line %d", narrow, a.line, wide, b.line)
		}
		if !slices.Equal(Words(narrow), Words(wide)) {
			t.Fatalf("%q: %q\n%q: %q", narrow, Words(narrow), wide, Words(wide))
		}
	}
}

// P18.4: assembling the disassembly of an assembled text yields the text.

func TestRoundTrip(t *testing.T) {
	r := rand.New(rand.NewPCG(18, 8))
	for range 10000 {
		text, _, _, e := Assemble(randomSource(r, r.IntN(30), true), r.IntN(words))
		if e != api.OK {
			t.Fatal(e)
		}
		if _, e = machine.Check(text); e != api.OK {
			t.Fatalf("%q is no program text", text)
		}
		src, e := Disassemble(text)
		if e != api.OK {
			t.Fatalf("%q: %d", text, e)
		}
		if again := assemble(src, r.IntN(words)); !again.equals(outcome{text: text}) {
			t.Fatalf("%q: %#v", text, again)
		}
	}
}
