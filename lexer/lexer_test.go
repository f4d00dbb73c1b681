package lexer

import (
	"math/big"
	"math/rand/v2"
	"regexp"
	"slices"
	"strconv"
	"strings"
	"testing"

	"stele/api"
)

// The sizes as the document writes them.
const (
	mostSource = 60000
	mostName   = 24
	mostNumber = 4294967295
)

// allKeywords and allSigns are the lists of the document.
var (
	allKeywords = strings.Fields("array else func halt if return var while")
	allSigns    = strings.Fields("&& || == != <= >= < > ^ + - * / % ! = ( ) { } [ ] , ;")
)

// A second lexer: it has an expression for each kind of token, and computes lines by counting from the beginning.
var (
	emptiness = regexp.MustCompile(`^(?:[ \t\n]|//[^\n]*)`)
	numeral   = regexp.MustCompile(`^[0-9]+`)
	glued     = regexp.MustCompile(`^[0-9]+[A-Za-z_]`)
	literal   = regexp.MustCompile(`^'[ -&(-\[\]-~]'`)
	wordlike  = regexp.MustCompile(`^[a-z][a-z0-9_]*`)
	signlike  = regexp.MustCompile(`^(?:&&|\|\||==|!=|<=|>=|[-<>^+*/%!=(){}\[\],;])`)
	greatest  = big.NewInt(mostNumber)
)

// outcome is what Tokens returns.
type outcome struct {
	tokens []api.Token
	line   int
	e      api.Errno
}

func (o outcome) equals(p outcome) bool {
	return slices.Equal(o.tokens, p.tokens) && o.line == p.line && o.e == p.e
}

func lex(src string) outcome {
	tokens, line, e := Tokens(src)
	return outcome{tokens, line, e}
}

func otherLex(src string) outcome {
	if len(src) > mostSource {
		return outcome{e: api.ErrLimit}
	}
	var list []api.Token
	for at := 0; at < len(src); {
		rest := src[at:]
		if space := emptiness.FindString(rest); space != "" {
			at += len(space)
			continue
		}
		line := len(strings.Split(src[:at], "\n"))
		t, length, e := otherFirst(rest)
		if e != api.OK {
			return outcome{line: line, e: e}
		}
		t.Line = line
		list = append(list, t)
		at += length
	}
	return outcome{tokens: list}
}

func otherFirst(rest string) (api.Token, int, api.Errno) {
	if glued.MatchString(rest) {
		return api.Token{}, 0, api.ErrSyntax
	}
	if s := numeral.FindString(rest); s != "" {
		value, _ := new(big.Int).SetString(s, 10)
		if value.Cmp(greatest) > 0 {
			return api.Token{}, 0, api.ErrRange
		}
		return api.Token{Kind: api.NumberToken, Text: value.String()}, len(s), api.OK
	}
	if s := literal.FindString(rest); s != "" {
		return api.Token{Kind: api.NumberToken, Text: big.NewInt(int64(s[1])).String()}, 3, api.OK
	}
	if s := wordlike.FindString(rest); s != "" {
		if len(s) > mostName {
			return api.Token{}, 0, api.ErrName
		}
		if slices.Index(allKeywords, s) >= 0 {
			return api.Token{Kind: api.KeywordToken, Text: s}, len(s), api.OK
		}
		return api.Token{Kind: api.NameToken, Text: s}, len(s), api.OK
	}
	if s := signlike.FindString(rest); s != "" {
		return api.Token{Kind: api.SignToken, Text: s}, len(s), api.OK
	}
	return api.Token{}, 0, api.ErrSyntax
}

// list returns the tokens on line 1 that have the given texts.
func list(words ...string) []api.Token {
	var tokens []api.Token
	for _, w := range words {
		switch {
		case w[0] >= '0' && w[0] <= '9':
			tokens = append(tokens, api.Token{Kind: api.NumberToken, Text: w, Line: 1})
		case slices.Contains(allKeywords, w):
			tokens = append(tokens, api.Token{Kind: api.KeywordToken, Text: w, Line: 1})
		case w[0] >= 'a' && w[0] <= 'z':
			tokens = append(tokens, api.Token{Kind: api.NameToken, Text: w, Line: 1})
		default:
			tokens = append(tokens, api.Token{Kind: api.SignToken, Text: w, Line: 1})
		}
	}
	return tokens
}

// randomToken returns the source text of a valid token.
func randomToken(r *rand.Rand) string {
	switch r.IntN(6) {
	case 0:
		return strings.Repeat("0", r.IntN(3)) + strconv.Itoa(r.IntN(mostNumber+1)>>r.IntN(33))
	case 1:
		c := byte(32 + r.IntN(95))
		if c == '\'' || c == '\\' {
			c = '/'
		}
		return "'" + string(rune(c)) + "'"
	case 2:
		return allKeywords[r.IntN(len(allKeywords))]
	case 3:
		name := []byte{"abeiwz"[r.IntN(6)]}
		for range r.IntN(mostName) {
			name = append(name, "abcxyz0189_"[r.IntN(11)])
		}
		return string(name)
	}
	return allSigns[r.IntN(len(allSigns))]
}

// invalidToken returns something at the beginning of which no valid token starts.
func invalidToken(r *rand.Rand) string {
	return []string{"1a", "4294967296", "00099999999999_", "abcdefghijklmnopqrstuvwxy", "''", "'\\'", "'", "&", "|", "A", "_", "\r", "\x00", "\xff", "\"", ".", "5x"}[r.IntN(17)]
}

// randomGap returns white space and comments.
func randomGap(r *rand.Rand) string {
	return []string{" ", " ", " ", "\n", "\t", "  ", "\n\n", " // 1a ' \xff\n", "//\n", "//a//b\n\t\n", " \t\n ", "/////\n"}[r.IntN(12)]
}

// gapAfter returns white space and comments that can follow a token: a comment directly after a / would begin with that /.
func gapAfter(token string, r *rand.Rand) string {
	gap := randomGap(r)
	if token == "/" && gap[0] == '/' {
		return " " + gap
	}
	return gap
}

// randomSource returns tokens with gaps between them, or with nothing between some of them if so asked.
func randomSource(r *rand.Rand, tokens int, dense, valid bool) string {
	var b strings.Builder
	for range tokens {
		if !valid && r.IntN(20) == 0 {
			b.WriteString(invalidToken(r))
		} else {
			b.WriteString(randomToken(r))
		}
		if !dense || r.IntN(3) > 0 {
			b.WriteString(randomGap(r))
		}
	}
	return b.String()
}

// P19.1: the result of both functions is the specified one.

func TestTokensExamples(t *testing.T) {
	for _, c := range []struct {
		src  string
		want []api.Token
	}{
		{"x = 'A'; // y", list("x", "=", "65", ";")},
		{"", nil},
		{" \t\n\n \t", nil},
		{"//", nil},
		{"// nothing", nil},
		{"//\n//", nil},
		{"/", list("/")},
		{"/ /", list("/", "/")},
		{"a/b", list("a", "/", "b")},
		{"a///b", list("a")},
		{"a/ //b", list("a", "/")},
		{"a//'", list("a")},
		{"0", list("0")},
		{"000", list("0")},
		{"0010", list("10")},
		{"12 34", list("12", "34")},
		{"1+2", list("1", "+", "2")},
		{"-1", list("-", "1")},
		{"'1'2'3'", list("49", "2", "51")},
		{"1'2'", list("1", "50")},
		{"'a'b", list("97", "b")},
		{"a'b'", list("a", "98")},
		{"'/''/'", list("47", "47")},
		{"' '' '", list("32", "32")},
		{"'\"'", list("34")},
		{"if1 if_ ifa fi while while0", list("if1", "if_", "ifa", "fi", "while", "while0")},
		{"a===b", list("a", "==", "=", "b")},
		{"a<==b", list("a", "<=", "=", "b")},
		{"!==!!=", list("!=", "=", "!", "!=")},
		{"=!=", list("=", "!=")},
		{"=<=>=", list("=", "<=", ">=")},
		{"<<>>", list("<", "<", ">", ">")},
		{"&&&&||||", list("&&", "&&", "||", "||")},
		{"((a))[[1]]{{}},,;;", list("(", "(", "a", ")", ")", "[", "[", "1", "]", "]", "{", "{", "}", "}", ",", ",", ";", ";")},
		{"while(a<=b&&c){d[1]=!e;}", list("while", "(", "a", "<=", "b", "&&", "c", ")", "{", "d", "[", "1", "]", "=", "!", "e", ";", "}")},
	} {
		if got := lex(c.src); !got.equals(outcome{tokens: c.want}) {
			t.Errorf("%q: %#v, not %#v", c.src, got, c.want)
		}
	}
}

func TestTokensLikeTheSecondLexer(t *testing.T) {
	r := rand.New(rand.NewPCG(19, 1))
	seen := map[api.Errno]int{}
	for i := range 40000 {
		src := randomSource(r, r.IntN(14), i%2 == 0, i%4 < 2)
		got, want := lex(src), otherLex(src)
		if !got.equals(want) {
			t.Fatalf("%q: %#v, not %#v", src, got, want)
		}
		seen[got.e]++
	}
	for _, e := range []api.Errno{api.OK, api.ErrRange, api.ErrSyntax, api.ErrName} {
		if seen[e] < 100 {
			t.Errorf("error %d occurred %d times", e, seen[e])
		}
	}
}

func TestTokensOfArbitraryBytes(t *testing.T) {
	r := rand.New(rand.NewPCG(19, 2))
	const frequent = "''  \n\n\t//ab_z019&|=!<>^+-*%(){}[],;\\A.\r\x00\xff"
	for range 100000 {
		src := make([]byte, r.IntN(14))
		for i := range src {
			src[i] = frequent[r.IntN(len(frequent))]
			if r.IntN(10) == 0 {
				src[i] = byte(r.Uint32())
			}
		}
		got, want := lex(string(src)), otherLex(string(src))
		if !got.equals(want) {
			t.Fatalf("%q: %#v, not %#v", src, got, want)
		}
	}
}

func TestEveryByte(t *testing.T) {
	for c := range 256 {
		src := string([]byte{byte(c)})
		want := outcome{line: 1, e: api.ErrSyntax}
		switch {
		case strings.Contains(" \t\n", src):
			want = outcome{}
		case slices.Contains(allSigns, src) || c >= '0' && c <= '9' || c >= 'a' && c <= 'z':
			want = outcome{tokens: list(src)}
		}
		if got := lex(src); !got.equals(want) {
			t.Errorf("%q: %#v", src, got)
		}
	}
}

func TestEveryPairOfBytes(t *testing.T) {
	for n := range 65536 {
		src := string([]byte{byte(n >> 8), byte(n)})
		if got, want := lex(src), otherLex(src); !got.equals(want) {
			t.Fatalf("%q: %#v, not %#v", src, got, want)
		}
	}
}

func TestNumbers(t *testing.T) {
	zeros := strings.Repeat("0", 1000)
	for _, c := range []struct {
		src  string
		want string
		e    api.Errno
	}{
		{"4294967295", "4294967295", api.OK},
		{"4294967294", "4294967294", api.OK},
		{"4294967289", "4294967289", api.OK},
		{"999999999", "999999999", api.OK},
		{"1000000000", "1000000000", api.OK},
		{"0004294967295", "4294967295", api.OK},
		{zeros, "0", api.OK},
		{zeros + "4294967295", "4294967295", api.OK},
		{zeros + "70", "70", api.OK},
		{"4294967296", "", api.ErrRange},
		{"4294967300", "", api.ErrRange},
		{"5000000000", "", api.ErrRange},
		{"9999999999", "", api.ErrRange},
		{"10000000000", "", api.ErrRange},
		{"18446744073709551616", "", api.ErrRange},
		{"18446744073709551617", "", api.ErrRange},
		{"0004294967296", "", api.ErrRange},
		{zeros + "4294967296", "", api.ErrRange},
		{"1" + zeros, "", api.ErrRange},
		{"4294967296;", "", api.ErrRange},
		{"4294967296\"", "", api.ErrRange},
	} {
		want := outcome{line: 1, e: c.e}
		if c.e == api.OK {
			want = outcome{tokens: list(c.want)}
		}
		if got := lex(c.src); !got.equals(want) {
			t.Errorf("%q: %#v, not %#v", c.src, got, want)
		}
	}
}

func TestWhatFollowsANumber(t *testing.T) {
	for c := range 256 {
		b := byte(c)
		letter := b >= 'a' && b <= 'z' || b >= 'A' && b <= 'Z' || b == '_'
		for _, n := range []string{"0", "7", "4294967295"} {
			if got := lex(n + string([]byte{b}) + " "); letter && !got.equals(outcome{line: 1, e: api.ErrSyntax}) {
				t.Errorf("%q after %s: %#v", b, n, got)
			}
		}
		want := outcome{line: 1, e: api.ErrRange}
		if letter {
			want.e = api.ErrSyntax
		}
		for _, n := range []string{"4294967296", "99999999999999999999", "00004294967296"} {
			if got := lex(n + string([]byte{b})); !got.equals(want) {
				t.Errorf("%q after %s: %#v", b, n, got)
			}
		}
	}
}

func TestCharacterLiterals(t *testing.T) {
	wrong := outcome{line: 1, e: api.ErrSyntax}
	for c := range 256 {
		src := "'" + string([]byte{byte(c)}) + "'"
		want := wrong
		if c >= 32 && c <= 126 && c != 39 && c != 92 {
			want = outcome{tokens: list(strconv.Itoa(c))}
		}
		if got := lex(src); !got.equals(want) {
			t.Errorf("%q: %#v", src, got)
		}
	}
	for _, src := range []string{"'", "''", "'''", "''''", "'a", "'a ", "'a\n'", "'ab'", "'ab", "'a\"", "'é'", "'\\n'", "'\\''", "'\\\\'", "'//'", "' //'", "'a//", "x'"} {
		if got := lex(src); !got.equals(wrong) {
			t.Errorf("%q: %#v", src, got)
		}
	}
}

func TestNames(t *testing.T) {
	long := "abcdefghijklmnopqrstuvwx"
	for _, name := range []string{"a", "z", "a0", "a9", "a_", "az", "za", "a_0_z", "z__", "arrays", "elsee", "function", "halt_", "i", "iff", "re", "returns", "vars", "whil", "while_", long, "a" + strings.Repeat("_", 23), "z" + strings.Repeat("9", 23)} {
		want := outcome{tokens: []api.Token{{Kind: api.NameToken, Text: name, Line: 1}}}
		if got := lex(name); !got.equals(want) {
			t.Errorf("%q: %#v", name, got)
		}
	}
	for _, name := range []string{long + "y", long + "0", long + "_", long + "yZ", strings.Repeat(long, 100), "if" + strings.Repeat("_", 23)} {
		if got := lex("\n" + name); !got.equals(outcome{line: 2, e: api.ErrName}) {
			t.Errorf("%q: %#v", name, got)
		}
	}
	for _, name := range []string{"A", "Z", "_", "_a", "aB", "a.b", "a$", "a`", "`", "a\"", "é", "aé", "a\xff", "a\x00", "If", "IF", "iF", long + "Y", "a#", "a@", "a:", "a?", "a\\", "a~", "a\v", "a\f", "a\r"} {
		if got := lex("\n" + name); !got.equals(outcome{line: 2, e: api.ErrSyntax}) {
			t.Errorf("%q: %#v", name, got)
		}
	}
}

func TestKeywordTokens(t *testing.T) {
	for _, k := range allKeywords {
		for _, src := range []string{k, k + "(", k + "//", k + "\n"} {
			got := lex(src)
			if len(got.tokens) == 0 || got.tokens[0] != (api.Token{Kind: api.KeywordToken, Text: k, Line: 1}) || got.e != api.OK {
				t.Errorf("%q: %#v", src, got)
			}
		}
		for _, src := range []string{k + "x", "x" + k, k + "1", k + "_", k[1:], k[:len(k)-1], k + k} {
			want := outcome{tokens: []api.Token{{Kind: api.NameToken, Text: src, Line: 1}}}
			if got := lex(src); !got.equals(want) {
				t.Errorf("%q: %#v", src, got)
			}
		}
	}
}

func TestSigns(t *testing.T) {
	for _, s := range allSigns {
		if got := lex(s); !got.equals(outcome{tokens: []api.Token{{Kind: api.SignToken, Text: s, Line: 1}}}) {
			t.Errorf("%q: %#v", s, got)
		}
	}
	for _, src := range []string{"&", "|", "& &", "| |", "&|", "|&", "a&b", "a|b", "&&&", "|||", "~", "@", "#", "$", "?", ":", ".", "\"", "`", "\\"} {
		if got := lex(src); !got.equals(outcome{line: 1, e: api.ErrSyntax}) {
			t.Errorf("%q: %#v", src, got)
		}
	}
}

func TestLines(t *testing.T) {
	for _, c := range []struct {
		src   string
		lines []int
	}{
		{"a b", []int{1, 1}},
		{"a\nb\n", []int{1, 2}},
		{"\n\n a\n\n\nb c", []int{3, 6, 6}},
		{"// x\na// y\n//\n\tb", []int{2, 4}},
		{"a//\n//\n\n//\nb", []int{1, 5}},
		{"a \t\n \t\n \tb;", []int{1, 3, 3}},
		{strings.Repeat("a\n", 5) + strings.Repeat("\n", 999) + "'z'\n" + "7", []int{1, 2, 3, 4, 5, 1005, 1006}},
	} {
		got := lex(c.src)
		var lines []int
		for _, t := range got.tokens {
			lines = append(lines, t.Line)
		}
		if !slices.Equal(lines, c.lines) || got.e != api.OK || got.line != 0 {
			t.Errorf("%.20q: %v %d %d, not %v", c.src, lines, got.line, got.e, c.lines)
		}
	}
}

func TestFirstErrorWins(t *testing.T) {
	long := strings.Repeat("n", mostName+1)
	for _, c := range []struct {
		src  string
		line int
		e    api.Errno
	}{
		{"1a", 1, api.ErrSyntax},
		{"4294967296", 1, api.ErrRange},
		{"99999999999999999999_", 1, api.ErrSyntax},
		{"99999999999999999999a", 1, api.ErrSyntax},
		{"99999999999999999999 a", 1, api.ErrRange},
		{"99999999999999999999A", 1, api.ErrSyntax},
		{"a\n1a\n4294967296", 2, api.ErrSyntax},
		{"a\n4294967296\n1a", 2, api.ErrRange},
		{long + "\n&", 1, api.ErrName},
		{"&\n" + long, 1, api.ErrSyntax},
		{"4294967296\n" + long, 1, api.ErrRange},
		{"\n\n" + long + "\n4294967296", 3, api.ErrName},
		{"// &\n//" + long + "\n\n'\n", 4, api.ErrSyntax},
		{"'\n'", 1, api.ErrSyntax},
		{"a\n\n'x", 3, api.ErrSyntax},
		{"a '// \n'", 1, api.ErrSyntax},
		{"\r\n", 1, api.ErrSyntax},
		{"a\nb\r", 2, api.ErrSyntax},
	} {
		if got := lex(c.src); !got.equals(outcome{line: c.line, e: c.e}) {
			t.Errorf("%q: %#v", c.src, got)
		}
	}
}

func TestLongestSource(t *testing.T) {
	for _, c := range []struct {
		src    string
		tokens int
	}{
		{strings.Repeat("x ", mostSource/2), mostSource / 2},
		{strings.Repeat(";", mostSource), mostSource},
		{strings.Repeat("\n", mostSource), 0},
		{"//" + strings.Repeat("\xff", mostSource-2), 0},
		{strings.Repeat("0", mostSource-1) + "1", 1},
		{strings.Repeat("'a'", mostSource/3), mostSource / 3},
	} {
		if got := lex(c.src); len(got.tokens) != c.tokens || got.line != 0 || got.e != api.OK {
			t.Errorf("%.10q: %d tokens, %d %d", c.src, len(got.tokens), got.line, got.e)
		}
		for _, longer := range []string{c.src + " ", c.src + "\n", c.src + "&", "1a" + c.src, c.src + c.src} {
			if got := lex(longer); !got.equals(outcome{e: api.ErrLimit}) {
				t.Errorf("%.10q, %d bytes: %d tokens, %d %d", longer, len(longer), len(got.tokens), got.line, got.e)
			}
		}
	}
	if got := lex(strings.Repeat("\n", mostSource-1) + "&"); !got.equals(outcome{line: mostSource, e: api.ErrSyntax}) {
		t.Errorf("%d %d", got.line, got.e)
	}
	if got := lex(strings.Repeat("a", mostSource)); !got.equals(outcome{line: 1, e: api.ErrName}) {
		t.Errorf("%d %d", got.line, got.e)
	}
	if got := lex(strings.Repeat("9", mostSource)); !got.equals(outcome{line: 1, e: api.ErrRange}) {
		t.Errorf("%d %d", got.line, got.e)
	}
}

func TestKeywords(t *testing.T) {
	got := Keywords()
	if !slices.Equal(got, allKeywords) || !slices.IsSorted(got) {
		t.Errorf("%q", got)
	}
	got[0] = "changed"
	if again := Keywords(); !slices.Equal(again, allKeywords) {
		t.Errorf("after a change: %q", again)
	}
	if got := lex("array changed"); !got.equals(outcome{tokens: list("array", "changed")}) {
		t.Errorf("after a change: %#v", got)
	}
}

// P19.2: additional white space and comments between tokens change nothing but line numbers.

// plain returns tokens without their lines.
func plain(tokens []api.Token) []api.Token {
	var list []api.Token
	for _, t := range tokens {
		list = append(list, api.Token{Kind: t.Kind, Text: t.Text})
	}
	return list
}

func TestLayout(t *testing.T) {
	r := rand.New(rand.NewPCG(19, 3))
	for range 5000 {
		var narrow, wide strings.Builder
		wide.WriteString(randomGap(r))
		lines := []int{}
		for range r.IntN(20) {
			token := randomToken(r)
			narrow.WriteString(token + " ")
			lines = append(lines, 1+strings.Count(wide.String(), "\n"))
			wide.WriteString(token)
			wide.WriteString(gapAfter(token, r))
			for range r.IntN(4) {
				wide.WriteString(randomGap(r))
			}
		}
		a, b := lex(narrow.String()), lex(wide.String())
		if a.e != api.OK || b.e != api.OK || !slices.Equal(plain(a.tokens), plain(b.tokens)) || len(a.tokens) != len(lines) {
			t.Fatalf("%q: %#v; %q: %#v", narrow.String(), a, wide.String(), b)
		}
		for i, token := range b.tokens {
			if token.Line != lines[i] || a.tokens[i].Line != 1 {
				t.Fatalf("%q: token %d is on line %d, not on %d", wide.String(), i, token.Line, lines[i])
			}
		}
	}
}

func TestLayoutWhereNothingSeparates(t *testing.T) {
	for _, c := range []struct{ dense, loose string }{
		{"a=b", "a = b"},
		{"a=b", "a\n=//=\n\tb"},
		{"f(x,'y')", "f ( x , 'y' )"},
		{"!-1", "! // !\n - // -\n 1 // 1\n"},
		{"if'x'{halt;}else{}", "\nif\n'x'\n{\nhalt\n;\n}\nelse\n{\n}\n"},
		{"1&&2||3", "1 &&\t2\n|| 3"},
	} {
		a, b := lex(c.dense), lex(c.loose)
		if a.e != api.OK || b.e != api.OK || !slices.Equal(plain(a.tokens), plain(b.tokens)) {
			t.Errorf("%q: %#v; %q: %#v", c.dense, a, c.loose, b)
		}
	}
	r := rand.New(rand.NewPCG(19, 4))
	for range 5000 {
		src := randomSource(r, r.IntN(12), true, true)
		if got := lex(src); got.e == api.OK {
			var loose strings.Builder
			for _, token := range got.tokens {
				loose.WriteString(token.Text + gapAfter(token.Text, r))
			}
			if b := lex(loose.String()); !slices.Equal(plain(got.tokens), plain(b.tokens)) {
				t.Fatalf("%q: %#v; %q: %#v", src, got, loose.String(), b)
			}
		}
	}
}

func TestLayoutOfErrors(t *testing.T) {
	r := rand.New(rand.NewPCG(19, 5))
	for range 5000 {
		wrong := invalidToken(r)
		before, gap := randomSource(r, r.IntN(5), false, true), randomGap(r)
		a, b := lex(before+wrong), lex(before+gap+wrong)
		if a.e == api.OK || b.e != a.e || b.line != a.line+strings.Count(gap, "\n") || len(a.tokens)+len(b.tokens) > 0 {
			t.Fatalf("%q: %#v; with %q: %#v", before+wrong, a, gap, b)
		}
	}
}

// P19.3: the tokens of two source texts with a line feed between them are those of both.

func TestConcatenation(t *testing.T) {
	r := rand.New(rand.NewPCG(19, 6))
	seen := [4]int{}
	for i := range 20000 {
		a := randomSource(r, r.IntN(8), i%2 == 0, i%3 > 0)
		b := randomSource(r, r.IntN(8), i%2 == 0, i%3 > 0)
		if i%5 == 0 {
			a += "// " + a[r.IntN(len(a)+1):]
		}
		shift := strings.Count(a, "\n") + 1
		first, second, got := lex(a), lex(b), lex(a+"\n"+b)
		want := first
		kind := 0
		switch {
		case first.e != api.OK && second.e != api.OK:
			kind = 3
		case first.e != api.OK:
			kind = 2
		case second.e != api.OK:
			want, kind = outcome{line: second.line + shift, e: second.e}, 1
		default:
			for _, token := range second.tokens {
				token.Line += shift
				want.tokens = append(want.tokens, token)
			}
		}
		if !got.equals(want) {
			t.Fatalf("%q and %q: %#v, not %#v", a, b, got, want)
		}
		seen[kind]++
	}
	if slices.Min(seen[:]) < 100 {
		t.Error(seen)
	}
}

func TestConcatenationExamples(t *testing.T) {
	for _, c := range []struct {
		a, b string
		want outcome
	}{
		{"", "", outcome{}},
		{"", "a", outcome{tokens: []api.Token{{Kind: api.NameToken, Text: "a", Line: 2}}}},
		{"a", "", outcome{tokens: list("a")}},
		{"wh", "ile", outcome{tokens: []api.Token{{Kind: api.NameToken, Text: "wh", Line: 1}, {Kind: api.NameToken, Text: "ile", Line: 2}}}},
		{"1", "a", outcome{tokens: []api.Token{{Kind: api.NumberToken, Text: "1", Line: 1}, {Kind: api.NameToken, Text: "a", Line: 2}}}},
		{"=", "=", outcome{tokens: []api.Token{{Kind: api.SignToken, Text: "=", Line: 1}, {Kind: api.SignToken, Text: "=", Line: 2}}}},
		{"/", "/a", outcome{tokens: []api.Token{{Kind: api.SignToken, Text: "/", Line: 1}, {Kind: api.SignToken, Text: "/", Line: 2}, {Kind: api.NameToken, Text: "a", Line: 2}}}},
		{"//", "1", outcome{tokens: []api.Token{{Kind: api.NumberToken, Text: "1", Line: 2}}}},
		{"'", "'", outcome{line: 1, e: api.ErrSyntax}},
		{"&", "4294967296", outcome{line: 1, e: api.ErrSyntax}},
		{"4294967296", "&", outcome{line: 1, e: api.ErrRange}},
		{"a\n", "&", outcome{line: 3, e: api.ErrSyntax}},
	} {
		if got := lex(c.a + "\n" + c.b); !got.equals(c.want) {
			t.Errorf("%q and %q: %#v", c.a, c.b, got)
		}
	}
}

// P19.4: the texts of the tokens, separated by spaces, have the same tokens on one line.

func TestRoundTrip(t *testing.T) {
	r := rand.New(rand.NewPCG(19, 7))
	for i := range 10000 {
		src := randomSource(r, r.IntN(20), i%2 == 0, true)
		tokens, _, e := Tokens(src)
		if e != api.OK {
			continue
		}
		var texts []string
		var want []api.Token
		for _, token := range tokens {
			texts = append(texts, token.Text)
			want = append(want, api.Token{Kind: token.Kind, Text: token.Text, Line: 1})
		}
		if got := lex(strings.Join(texts, " ")); !got.equals(outcome{tokens: want}) {
			t.Fatalf("%q, then %q: %#v", src, texts, got)
		}
	}
}

func TestRoundTripOfEveryToken(t *testing.T) {
	var texts []string
	for c := range 127 {
		if c >= 32 && c != '\'' && c != '\\' {
			texts = append(texts, "'"+string(rune(c))+"'")
		}
	}
	texts = append(texts, allSigns...)
	texts = append(texts, allKeywords...)
	texts = append(texts, "007", "4294967295", "0", "a_1", "iff")
	tokens, _, e := Tokens(strings.Join(texts, "\n"))
	if e != api.OK || len(tokens) != len(texts) {
		t.Fatalf("%d tokens, error %d", len(tokens), e)
	}
	for i, token := range tokens {
		token.Line = 1
		if got := lex(token.Text); !got.equals(outcome{tokens: []api.Token{token}}) {
			t.Errorf("%q, then %q: %#v", texts[i], token.Text, got)
		}
	}
}
