package parser

import (
	"math/rand/v2"
	"reflect"
	"slices"
	"strconv"
	"strings"
	"testing"

	"stele/api"
)

// equals compares results without Equal: empty slices are made nil first.
func (o outcome) equals(p outcome) bool {
	return reflect.DeepEqual(withNil(o.p), withNil(p.p)) && o.line == p.line && o.e == p.e
}

// withNil returns a copy of a value in which all empty slices are nil.
func withNil[T any](v T) T {
	return rebuilt(reflect.ValueOf(v), func(s reflect.Value) reflect.Value {
		if s.Len() == 0 {
			return reflect.Zero(s.Type())
		}
		return s
	}).Interface().(T)
}

// rebuilt returns a deep copy of a value, after each slice has been replaced by what a function makes of it.
func rebuilt(v reflect.Value, replace func(s reflect.Value) reflect.Value) reflect.Value {
	c := reflect.New(v.Type()).Elem()
	switch v.Kind() {
	case reflect.Struct:
		for i := range v.NumField() {
			c.Field(i).Set(rebuilt(v.Field(i), replace))
		}
	case reflect.Slice:
		list := reflect.MakeSlice(v.Type(), v.Len(), v.Len())
		for i := range v.Len() {
			list.Index(i).Set(rebuilt(v.Index(i), replace))
		}
		c.Set(replace(list))
	default:
		c.Set(v)
	}
	return c
}

func isZero(p api.Program) bool {
	return len(p.Vars)+len(p.Arrays)+len(p.Funcs) == 0
}

func mustParse(t *testing.T, src string) api.Program {
	t.Helper()
	p, line, e := Parse(src)
	if line != 0 || e != api.OK {
		t.Fatalf("%.300q: line %d, error %d", src, line, e)
	}
	return p
}

// bodyOf returns the statements of a function.
func bodyOf(t *testing.T, statements string) []api.Stmt {
	t.Helper()
	p := mustParse(t, "func f() {"+statements+"}")
	if len(p.Vars) != 0 || len(p.Arrays) != 0 || len(p.Funcs) != 1 {
		t.Fatalf("%q: %#v", statements, p)
	}
	return p.Funcs[0].Body
}

// Short constructors of trees.

func num(n uint32) api.Expr                          { return api.Expr{Op: "num", Num: n} }
func variable(name string) api.Expr                  { return api.Expr{Op: "var", Name: name} }
func operation(op string, args ...api.Expr) api.Expr { return api.Expr{Op: op, Args: args} }
func elem(name string, index api.Expr) api.Expr {
	return api.Expr{Op: "elem", Name: name, Args: []api.Expr{index}}
}
func call(name string, args ...api.Expr) api.Expr {
	return api.Expr{Op: "call", Name: name, Args: args}
}
func assign(name string, value api.Expr) api.Stmt {
	return api.Stmt{Kind: api.AssignStmt, Name: name, Value: []api.Expr{value}}
}

var a, b, c, d = variable("a"), variable("b"), variable("c"), variable("d")

// P20.1: the syntax tree of a program, or the line and the error of the first impossible token.

func TestParseDeclarations(t *testing.T) {
	for _, x := range []struct {
		src  string
		want api.Program
	}{
		{"", api.Program{}},
		{" \n\t// nothing", api.Program{}},
		{"var a;", api.Program{Vars: []string{"a"}}},
		{"var a, b;var c;", api.Program{Vars: []string{"a", "b", "c"}}},
		{"var b, a, b;", api.Program{Vars: []string{"b", "a", "b"}}},
		{"array t[0];", api.Program{Arrays: []api.Array{{Name: "t", Size: 0}}}},
		{"array t[4294967295];array u['A'];array t[007];", api.Program{Arrays: []api.Array{{Name: "t", Size: 4294967295}, {Name: "u", Size: 65}, {Name: "t", Size: 7}}}},
		{"func f() {}", api.Program{Funcs: []api.Func{{Name: "f"}}}},
		{"func f(p) {}", api.Program{Funcs: []api.Func{{Name: "f", Params: []string{"p"}}}}},
		{"func f(p, q, p) {}", api.Program{Funcs: []api.Func{{Name: "f", Params: []string{"p", "q", "p"}}}}},
		{"func f() {var l;}", api.Program{Funcs: []api.Func{{Name: "f", Locals: []string{"l"}}}}},
		{"func f() {var l, m;var n;halt;}", api.Program{Funcs: []api.Func{{Name: "f", Locals: []string{"l", "m", "n"}, Body: []api.Stmt{{Kind: api.HaltStmt}}}}}},
		{"func f() {} var x; func f(y) {} array t[1]; var y; array u[2]; func main() {}", api.Program{
			Vars:   []string{"x", "y"},
			Arrays: []api.Array{{Name: "t", Size: 1}, {Name: "u", Size: 2}},
			Funcs:  []api.Func{{Name: "f"}, {Name: "f", Params: []string{"y"}}, {Name: "main"}},
		}},
	} {
		if got := parse(x.src); !got.equals(outcome{p: x.want}) {
			t.Errorf("%q: %#v, not %#v", x.src, got, x.want)
		}
	}
}

func TestParseStatements(t *testing.T) {
	halt := api.Stmt{Kind: api.HaltStmt}
	for _, x := range []struct {
		src  string
		want []api.Stmt
	}{
		{"", nil},
		{"a = b;", []api.Stmt{assign("a", b)}},
		{"x = a - b * 2;", []api.Stmt{assign("x", operation("-", a, operation("*", b, num(2))))}},
		{"t[a] = b;", []api.Stmt{{Kind: api.StoreStmt, Name: "t", Index: []api.Expr{a}, Value: []api.Expr{b}}}},
		{"t[t[a] + 1] = t[b];", []api.Stmt{{Kind: api.StoreStmt, Name: "t", Index: []api.Expr{operation("+", elem("t", a), num(1))}, Value: []api.Expr{elem("t", b)}}}},
		{"g();", []api.Stmt{{Kind: api.CallStmt, Value: []api.Expr{call("g")}}}},
		{"out(a);g(a, b + 1, h());", []api.Stmt{
			{Kind: api.CallStmt, Value: []api.Expr{call("out", a)}},
			{Kind: api.CallStmt, Value: []api.Expr{call("g", a, operation("+", b, num(1)), call("h"))}},
		}},
		{"return a;", []api.Stmt{{Kind: api.ReturnStmt, Value: []api.Expr{a}}}},
		{"return -a;", []api.Stmt{{Kind: api.ReturnStmt, Value: []api.Expr{operation("neg", a)}}}},
		{"halt;halt;", []api.Stmt{halt, halt}},
		{"if a {}", []api.Stmt{{Kind: api.IfStmt, Value: []api.Expr{a}}}},
		{"if a {} else {}", []api.Stmt{{Kind: api.IfStmt, Value: []api.Expr{a}}}},
		{"if a {halt;} a = b;", []api.Stmt{{Kind: api.IfStmt, Value: []api.Expr{a}, Then: []api.Stmt{halt}}, assign("a", b)}},
		{"if a {} else {halt;}", []api.Stmt{{Kind: api.IfStmt, Value: []api.Expr{a}, Else: []api.Stmt{halt}}}},
		{"if (a) {halt; a = b;} else {if b {} else {halt;}}", []api.Stmt{{
			Kind: api.IfStmt, Value: []api.Expr{a}, Then: []api.Stmt{halt, assign("a", b)},
			Else: []api.Stmt{{Kind: api.IfStmt, Value: []api.Expr{b}, Else: []api.Stmt{halt}}},
		}}},
		{"while a < b {}", []api.Stmt{{Kind: api.WhileStmt, Value: []api.Expr{operation("<", a, b)}}}},
		{"while 1 {while 0 {halt;} a = b;}", []api.Stmt{{
			Kind: api.WhileStmt, Value: []api.Expr{num(1)},
			Then: []api.Stmt{{Kind: api.WhileStmt, Value: []api.Expr{num(0)}, Then: []api.Stmt{halt}}, assign("a", b)},
		}}},
	} {
		got, want := outcome{p: api.Program{Funcs: []api.Func{{Body: bodyOf(t, x.src)}}}}, outcome{p: api.Program{Funcs: []api.Func{{Body: x.want}}}}
		if !got.equals(want) {
			t.Errorf("%q: %#v, not %#v", x.src, got, want)
		}
	}
}

func TestParseExpressions(t *testing.T) {
	for _, x := range []struct {
		src  string
		want api.Expr
	}{
		{"0", num(0)},
		{"4294967295", num(4294967295)},
		{"'A'", num(65)},
		{"a", a},
		{"(a)", a},
		{"((((a))))", a},
		{"neg", variable("neg")},
		{"not(not)", call("not", variable("not"))},
		{"num[num]", elem("num", variable("num"))},
		{"a[b]", elem("a", b)},
		{"a[b[c[1]]]", elem("a", elem("b", elem("c", num(1))))},
		{"a[b || c]", elem("a", operation("||", b, c))},
		{"f()", call("f")},
		{"f(a)", call("f", a)},
		{"f(a, b, c)", call("f", a, b, c)},
		{"f((a), (b < c) < d)", call("f", a, operation("<", operation("<", b, c), d))},
		{"f(g(h()), a[f(b)])", call("f", call("g", call("h")), elem("a", call("f", b)))},
		{"-1", operation("neg", num(1))},
		{"!a", operation("not", a)},
		{"--a", operation("neg", operation("neg", a))},
		{"!!a", operation("not", operation("not", a))},
		{"-!-a", operation("neg", operation("not", operation("neg", a)))},
		{"-a[b]", operation("neg", elem("a", b))},
		{"!f(a)", operation("not", call("f", a))},
		{"-a * b", operation("*", operation("neg", a), b)},
		{"-(a * b)", operation("neg", operation("*", a, b))},
		{"a * -b", operation("*", a, operation("neg", b))},
		{"a - -b", operation("-", a, operation("neg", b))},
		{"a--b", operation("-", a, operation("neg", b))},
		{"a - b - c", operation("-", operation("-", a, b), c)},
		{"a - (b - c)", operation("-", a, operation("-", b, c))},
		{"a + b - c + d", operation("+", operation("-", operation("+", a, b), c), d)},
		{"a / b * c % d", operation("%", operation("*", operation("/", a, b), c), d)},
		{"a ^ b ^ c", operation("^", operation("^", a, b), c)},
		{"a && b && c", operation("&&", operation("&&", a, b), c)},
		{"a || b || c", operation("||", operation("||", a, b), c)},
		{"a + b * c", operation("+", a, operation("*", b, c))},
		{"a * b + c", operation("+", operation("*", a, b), c)},
		{"a ^ b + c", operation("^", a, operation("+", b, c))},
		{"a + b ^ c", operation("^", operation("+", a, b), c)},
		{"a == b ^ c", operation("==", a, operation("^", b, c))},
		{"a ^ b == c", operation("==", operation("^", a, b), c)},
		{"a && b == c", operation("&&", a, operation("==", b, c))},
		{"a == b && c", operation("&&", operation("==", a, b), c)},
		{"a || b && c", operation("||", a, operation("&&", b, c))},
		{"a && b || c", operation("||", operation("&&", a, b), c)},
		{"(a || b) && c", operation("&&", operation("||", a, b), c)},
		{"(a < b) < c", operation("<", operation("<", a, b), c)},
		{"a < (b < c)", operation("<", a, operation("<", b, c))},
		{"a < b && c < d", operation("&&", operation("<", a, b), operation("<", c, d))},
		{"a < b || c >= d", operation("||", operation("<", a, b), operation(">=", c, d))},
		{"!a == b", operation("==", operation("not", a), b)},
		{"!(a == b)", operation("not", operation("==", a, b))},
		{"a || b && c != d ^ 1 - 2 % -3", operation("||", a, operation("&&", b, operation("!=", c, operation("^", d, operation("-", num(1), operation("%", num(2), operation("neg", num(3))))))))},
	} {
		for _, src := range []string{"x = " + x.src + ";", "return " + x.src + ";", "if " + x.src + " {}", "while(" + x.src + "){}", "x[" + x.src + "] = " + x.src + ";", "x(" + x.src + ");"} {
			body := bodyOf(t, src)
			list := slices.Concat(body[0].Value, body[0].Index)
			if body[0].Kind == api.CallStmt {
				list = list[0].Args
			}
			for _, got := range list {
				if !reflect.DeepEqual(withNil(got), withNil(x.want)) {
					t.Errorf("%q: %#v, not %#v", src, got, x.want)
				}
			}
		}
	}
}

// TestPairsOfOperators compares the tree of a op1 b op2 c with the levels of the grammar for all operators.
func TestPairsOfOperators(t *testing.T) {
	for i, weak := range levels {
		for j, strong := range levels {
			for _, first := range weak {
				for _, second := range strong {
					src := "func f() { x = a " + first + " b\n" + second + " c; }"
					left := operation(second, operation(first, a, b), c)
					right := operation(first, a, operation(second, b, c))
					want := outcome{p: api.Program{Funcs: []api.Func{{Name: "f", Body: []api.Stmt{assign("x", left)}}}}}
					switch {
					case i < j:
						want.p.Funcs[0].Body[0] = assign("x", right)
					case i == j && i == 2:
						want = outcome{line: 2, e: api.ErrSyntax}
					}
					if got := parse(src); !got.equals(want) {
						t.Errorf("%q: %#v, not %#v", src, got, want)
					}
				}
			}
		}
	}
}

func TestParseIsLikeTheSecondParser(t *testing.T) {
	r := rand.New(rand.NewPCG(20, 1))
	for range 400 {
		p := randomProgram(r)
		src := scatter(r, spelling{r}.program(p))
		got := parse(src)
		if !got.equals(outcome{p: p}) {
			t.Fatalf("%q: %#v, not %#v", src, got, p)
		}
		if want := otherParse(src); !got.equals(want) {
			t.Fatalf("%q: %#v, not %#v", src, got, want)
		}
	}
}

func TestErrorsAreLikeThoseOfTheSecondParser(t *testing.T) {
	r := rand.New(rand.NewPCG(20, 2))
	seen := map[api.Errno]int{}
	for range 3000 {
		words := damage(r, spelling{r}.program(randomProgram(r)))
		if len(words) > 250 {
			continue
		}
		src := scatter(r, words)
		if r.IntN(2) == 0 {
			src = strings.Join(words, "\n")
		}
		got, want := parse(src), otherParse(src)
		if !got.equals(want) {
			t.Fatalf("%q: %#v, not %#v", src, got, want)
		}
		if got.e != api.OK && !isZero(got.p) {
			t.Fatalf("%q: %#v with error %d", src, got.p, got.e)
		}
		seen[got.e]++
	}
	for _, e := range []api.Errno{api.OK, api.ErrSyntax, api.ErrRange} {
		if seen[e] < 20 {
			t.Errorf("error %d occurred %d times", e, seen[e])
		}
	}
}

// TestEveryNextToken tries every token behind all short beginnings of programs, and behind the beginnings of longer ones.
func TestEveryNextToken(t *testing.T) {
	vocabulary := strings.Fields("a 1 ( ) [ ] { } - ! * / % + ^ < > <= >= == != && || = , ; var array func if else while return halt")
	for start, length := range map[string]int{
		"": 6, "func f ( ) {": 4, "func f ( ) { var a ;": 2, "func f ( ) { a": 4, "func f ( ) { a = 1": 3, "func f ( ) { a = b [": 3,
		"func f ( ) { a ( ! c": 3, "func f ( ) { if a": 3, "func f ( ) { if a { }": 3, "func f ( ) { if a { } else { }": 2, "func f ( ) { while ( a )": 3,
		"func f ( ) { a [ 1 ]": 3, "func f ( ) { a = b < c": 3, "func f ( ) { a = b * c": 2, "func f ( ) { a = b || c": 2, "func f ( ) { }": 4,
		"var a , b ;": 3, "array a [ 1 ] ;": 2, "func f ( a": 4,
	} {
		tryNext(t, strings.Fields(start), vocabulary, length)
	}
}

// tryNext tries every word behind some words, and goes on behind those that are possible. The words are on lines of their own.
func tryNext(t *testing.T, words, vocabulary []string, length int) {
	checkSource(t, words)
	if length == 0 || t.Failed() {
		return
	}
	for _, w := range vocabulary {
		longer := append(slices.Clone(words), w)
		if possible := checkSource(t, longer); possible {
			tryFewer(t, longer, vocabulary, length-1)
		}
	}
}

// tryFewer is tryNext with a word for each kind of operators only, because there are too many others.
func tryFewer(t *testing.T, words, vocabulary []string, length int) {
	rare := strings.Fields("/ % + ^ > <= >= == != &&")
	if slices.Contains(rare, words[len(words)-1]) {
		length = min(length, 1)
	}
	tryNext(t, words, vocabulary, length)
}

// checkSource compares with the grammar and reports whether the words are the beginning of a program.
func checkSource(t *testing.T, words []string) bool {
	src := strings.Join(words, "\n")
	got, want := parse(src), otherParse(src)
	if !got.equals(want) {
		t.Fatalf("%q: %#v, not %#v", src, got, want)
	}
	return got.e == api.OK || got.line == len(words) && beginsProgram(words)
}

// beginsProgram reports whether there is a program that begins with some words.
func beginsProgram(words []string) bool {
	g := newEarley()
	return !slices.ContainsFunc(words, func(w string) bool {
		t := api.Token{Kind: api.SignToken, Text: w}
		if w[0] >= '0' && w[0] <= '9' {
			t.Kind = api.NumberToken
		} else if len(w) == 1 && w[0] >= 'a' && w[0] <= 'z' {
			t.Kind = api.NameToken
		}
		return !g.feed(t)
	})
}

func TestSyntaxErrors(t *testing.T) {
	for _, x := range []struct {
		src  string
		line int
	}{
		{"a", 1},
		{"\n\n;", 3},
		{"var", 1},
		{"var\n\n", 1},
		{"var // a\n", 1},
		{"var a,\n", 1},
		{"var a\n\n\n// end", 1},
		{"var a\n,\n", 2},
		{"var\n1;", 2},
		{"var a,\n;", 2},
		{"var a\n[1];", 2},
		{"var a\n= 1;", 2},
		{"var\nvar a;", 2},
		{"var\nhalt;", 2},
		{"array t\n;", 2},
		{"array t[\na];", 2},
		{"array t[\n];", 2},
		{"array t[\n-1];", 2},
		{"array t[1\n+ 1];", 2},
		{"array t[1]\n, u[2];", 2},
		{"array t[1]\n", 1},
		{"func\n() {}", 2},
		{"func f\n{}", 2},
		{"func f(\n1) {}", 2},
		{"func f(a\nb) {}", 2},
		{"func f(a,\n) {}", 2},
		{"func f(,\n) {}", 1},
		{"func f()\n;", 2},
		{"func f() {\n", 1},
		{"func f() {\n\n}\n}", 4},
		{"func f() {\nfunc g() {}}", 2},
		{"func f() {\narray t[1];}", 2},
		{"func f() {halt;\nvar x;}", 2},
		{"func f() {if 1 {\nvar x;}}", 2},
		{"func f() {\n;}", 2},
		{"func f() {\n{}}", 2},
		{"func f() {x\n;}", 2},
		{"func f() {x\n+ 1;}", 2},
		{"func f() {x =\n;}", 2},
		{"func f() {x = 1\n}", 2},
		{"func f() {x = 1\n= 2;}", 2},
		{"func f() {x = y\n= 2;}", 2},
		{"func f() {x\n== 1;}", 2},
		{"func f() {\n1 = x;}", 2},
		{"func f() {\n(x) = 1;}", 2},
		{"func f() {f()\n= 1;}", 2},
		{"func f() {f()\n[1] = 1;}", 2},
		{"func f() {f()\n+ 1;}", 2},
		{"func f() {t[1]\n;}", 2},
		{"func f() {t[1]\n(2);}", 2},
		{"func f() {t[1]\n[2] = 3;}", 2},
		{"func f() {t[1\n= 2;}", 2},
		{"func f() {t[\n] = 2;}", 2},
		{"func f() {t[1, \n2] = 2;}", 1},
		{"func f() {x = t[1,\n2];}", 1},
		{"func f() {x = (1,\n2);}", 1},
		{"func f() {x = (\n);}", 2},
		{"func f() {x = (1\n;}", 2},
		{"func f() {x = (1\n];}", 2},
		{"func f() {x = f(1\n2);}", 2},
		{"func f() {x = f(1,\n);}", 2},
		{"func f() {x = f(\n,1);}", 2},
		{"func f() {x = f(1\n;}", 2},
		{"func f() {x = f()\n();}", 2},
		{"func f() {x = t[1]\n[1];}", 2},
		{"func f() {x = 1\n(2);}", 2},
		{"func f() {x = 1\n2;}", 2},
		{"func f() {x = a\nb;}", 2},
		{"func f() {x = a\n!b;}", 2},
		{"func f() {x = a +\n;}", 2},
		{"func f() {x = a +\n* b;}", 2},
		{"func f() {x =\n+ b;}", 2},
		{"func f() {x =\n* b;}", 2},
		{"func f() {x = -\n;}", 2},
		{"func f() {x = a\n< b\n< c;}", 3},
		{"func f() {x = a\n==\nb\n&&\nc\n<\nd\n>\ne;}", 8},
		{"func f() {x = a && b < c\n>= d;}", 2},
		{"func f() {x = if\n;}", 1},
		{"func f() {if x\nhalt;}", 2},
		{"func f() {if\n{}}", 2},
		{"func f() {if x {}\nelse if y {}}", 2},
		{"func f() {if x {} else\nif y {}}", 2},
		{"func f() {if x {} else {}\nelse {}}", 2},
		{"func f() {while x {}\nelse {}}", 2},
		{"func f() {\nelse {}}", 2},
		{"func f() {while\n{}}", 2},
		{"func f() {return\n;}", 2},
		{"func f() {return 1\n}", 2},
		{"func f() {halt\n}", 2},
		{"func f() {halt\n1;}", 2},
		{"func\nif() {}", 2},
		{"func f(\nvar) {}", 2},
		{"func f() {} \nx = 1;", 2},
	} {
		if got := parse(x.src); !got.equals(outcome{line: x.line, e: api.ErrSyntax}) {
			t.Errorf("%q: %#v, not line %d", x.src, got, x.line)
		}
	}
}

func TestEndsTooEarly(t *testing.T) {
	words := strings.Fields("func f ( a , b ) { var c ; x = - ( a + t [ 1 ] ) ; if a { halt ; } else { f ( 1 , ! 2 ) ; } while a { t [ 1 ] = 2 ; } return 1 ; }")
	for n := 1; n < len(words); n++ {
		src := "\n" + strings.Join(words[:n], "\n") + "\n\n// end\n"
		if got := parse(src); !got.equals(outcome{line: n + 1, e: api.ErrSyntax}) {
			t.Errorf("%q: %#v", src, got)
		}
	}
	mustParse(t, strings.Join(words, "\n"))
}

func TestErrorsOfTheLexerComeFirst(t *testing.T) {
	for _, x := range []struct {
		src  string
		line int
		e    api.Errno
	}{
		{"$", 1, api.ErrSyntax},
		{"x = 1;\n\n4294967296", 3, api.ErrRange},
		{"x\n1a", 2, api.ErrSyntax},
		{"var\n\n" + strings.Repeat("a", 25), 3, api.ErrName},
		{"func f() {} \n\n}\n&", 4, api.ErrSyntax},
		{"func f() { x = " + strings.Repeat("(", 200) + "\n$", 2, api.ErrSyntax},
		{strings.Repeat(" ", mostSource+1), 0, api.ErrLimit},
		{"x\n" + strings.Repeat(" ", mostSource-1), 0, api.ErrLimit},
		{"x\n" + strings.Repeat(" ", mostSource-2), 1, api.ErrSyntax},
		{strings.Repeat(" ", mostSource), 0, api.OK},
		{strings.Repeat(" ", mostSource-6) + "var a;", 0, api.OK},
	} {
		got := parse(x.src)
		if got.line != x.line || got.e != x.e || x.e != api.OK && !isZero(got.p) {
			t.Errorf("%q: %#v, not line %d and error %d", x.src, got, x.line, x.e)
		}
	}
}

// inBlocks nests statements in ifs, so that some braces are open around them.
func inBlocks(open int, statements string) string {
	return "func f() {" + strings.Repeat("if 1 {", open-1) + "\n" + statements + strings.Repeat("}", open)
}

func TestOpenConstructs(t *testing.T) {
	for _, x := range []struct {
		statements string
		most       int // how many constructs are open at once in the statements
	}{
		{"", 0},
		{"x = a - b;", 0},
		{"x = a + b * c || d;", 0},
		{"halt;", 0},
		{"x = -1;", 1},
		{"x = !a;", 1},
		{"x = (1);", 1},
		{"x = f();", 1},
		{"x = f(1, 2);", 1},
		{"x = t[1];", 1},
		{"t[1] = 2;", 1},
		{"f();", 1},
		{"f(1);", 1},
		{"return -a;", 1},
		{"if 1 {}", 1},
		{"if 1 {} else {}", 1},
		{"if !a {} else {}", 1},
		{"while 1 {}", 1},
		{"while (a) {}", 1},
		{"x = -1 - -2 - !3 && -a;", 1},
		{"x = (1) + (2) * (3);", 1},
		{"x = t[1] + f() - -1;", 1},
		{"x = -a - t[b];", 1},
		{"x = -a - (b);", 1},
		{"x = -a * (b);", 1},
		{"x = -1 == f(b);", 1},
		{"x = --1;", 2},
		{"x = !-a;", 2},
		{"x = -(1);", 2},
		{"x = -f();", 2},
		{"x = -t[1];", 2},
		{"x = (-1);", 2},
		{"x = f(-1, -2, !3);", 2},
		{"x = f((1), t[2]);", 2},
		{"t[-1] = 2;", 2},
		{"t[f()] = 2;", 2},
		{"f(t[1]);", 2},
		{"x = ((1));", 2},
		{"if 1 {x = (1);}", 2},
		{"if 1 {} else {x = (1);}", 2},
		{"while 1 {if 1 {}}", 2},
		{"x = -(a) - -(b);", 2},
		{"x = -t[1] + (-2);", 2},
		{"x = !t[-a];", 3},
		{"x = -f(!a, b) - -(-c);", 3},
		{"x = !(a && (b || c));", 3},
	} {
		for open := mostConstructs - 3; open <= mostConstructs; open++ {
			src := inBlocks(open, x.statements)
			want := outcome{line: 2, e: api.ErrLimit}
			if open+x.most <= mostConstructs {
				want = otherParse(src)
				if want.e != api.OK {
					t.Fatalf("%q: %#v", src, want)
				}
			}
			if got := parse(src); !got.equals(want) {
				t.Errorf("%q in %d blocks: line %d, error %d", x.statements, open, got.line, got.e)
			}
		}
	}
}

func TestLimitOfEachConstruct(t *testing.T) {
	for _, x := range []struct{ begin, inside, end string }{
		{"(", "1", ")"}, {"-", "1", ""}, {"!", "a", ""}, {"t[", "1", "]"}, {"f(", "", ")"}, {"f(1, ", "1", ")"}, {"1 + (", "1", ")"}, {"-1 < (", "1", ")"},
	} {
		for n := mostConstructs - 2; n <= mostConstructs+1; n++ {
			src := "func f() { x =" + strings.Repeat("\n"+x.begin, n) + x.inside + strings.Repeat(x.end, n) + "; }"
			want := otherParse(src)
			if n >= mostConstructs {
				// The brace and 99 constructs are open before line 101.
				want = outcome{line: mostConstructs + 1, e: api.ErrLimit}
			}
			if got := parse(src); !got.equals(want) {
				t.Errorf("%d of %q: line %d, error %d", n, x.begin, got.line, got.e)
			}
		}
	}
}

func TestSyntaxErrorOfSignsThatWouldOpen(t *testing.T) {
	for _, statements := range []string{
		"{", "(", "[", "-1;", "!1;", "halt(", "halt{", "halt-", "return{", "return[", "x = [", "x = {", "x = 1(", "x = 1[", "x = 1{", "x = a{", "x = a !", "x{", "x-", "x!", "if{", "if[", "while{", "else{", "if 1 halt;", "if 1;", "if 1(", "while 1[", "while a;",
	} {
		for open := mostConstructs - 1; open <= mostConstructs; open++ {
			if got := parse(inBlocks(open, statements)); !got.equals(outcome{line: 2, e: api.ErrSyntax}) {
				t.Errorf("%q in %d blocks: line %d, error %d", statements, open, got.line, got.e)
			}
		}
	}
}

// TestConstructsAtTheLimit nests random constructs so deeply that the limit is near.
func TestConstructsAtTheLimit(t *testing.T) {
	r := rand.New(rand.NewPCG(20, 3))
	seen := map[api.Errno]int{}
	begins := []string{"(", "-", "!", "t[", "f(", "a+(", "-a-(", "!t[1]*f(-2,"}
	ends := []string{")", "", "", "]", ")", ")", ")", ")"}
	for range 60 {
		src := "1"
		for range 100 + r.IntN(40) {
			i := r.IntN(len(begins))
			src = begins[i] + "\n" + src + ends[i]
			if i == 1 || i == 2 {
				continue
			}
			src += []string{"", "", "+1", " - -b", "* t[1]"}[r.IntN(5)]
		}
		src = "func f() { x = " + src + "; }"
		got, want := parse(src), otherParse(src)
		if !got.equals(want) {
			t.Fatalf("%q: line %d, error %d, not %d and %d", src, got.line, got.e, want.line, want.e)
		}
		seen[got.e]++
	}
	if seen[api.OK] < 10 || seen[api.ErrLimit] < 10 {
		t.Error(seen)
	}
}

// TestLongLists fills the source text with items that do not remain open: nothing else limits their number.
func TestLongLists(t *testing.T) {
	gaps := strings.NewReplacer(" ", "", "\n", "")
	for _, x := range []struct{ start, item, formatted, end string }{
		{"func f() { x = 1", "+1", "+1", "; }"},
		{"func f() { x = 1", "--1", "--1", "; }"},
		{"func f() { x = 1", "*(1)", "*1", "; }"},
		{"func f() { x = 1", "+(1*2)", "+1*2", "; }"},
		{"func f() { x = f(1", ",-1", ",-1", "); }"},
		{"func f() { x = t[1]", "-t[1]", "-t[1]", "; }"},
		{"func f() {", "f();", "f();", "}"},
		{"func f() {", "if 1{}", "if1{}", "}"},
		{"func f() { var a", ";var a", ",a", ";}"},
		{"func f(a", ",a", ",a", ") {}"},
		{"var a", ",a", ",a", ";"},
		{"var a", ";var a", ",a", ";"},
		{"", "array t[1];", "arrayt[1];", ""},
		{"", "func f(){}", "funcf(){}", ""},
	} {
		n := (mostSource - len(x.start) - len(x.end)) / len(x.item)
		p := mustParse(t, x.start+strings.Repeat(x.item, n)+x.end)
		want := gaps.Replace(x.start) + strings.Repeat(x.formatted, n) + gaps.Replace(x.end)
		if got := gaps.Replace(Format(p)); got != want || !Equal(p, p) {
			t.Errorf("%d of %q: %.300q", n, x.item, got)
		}
	}
}

func TestResultsShareNoMemory(t *testing.T) {
	const src = "var a, b; array t[1]; func f(p, q) { var l, m; t[1 + 2] = f(3, 4); if 1 { halt; } else { halt; } }"
	first, second := mustParse(t, src), mustParse(t, src)
	places := map[uintptr]bool{}
	collectPlaces(reflect.ValueOf(first), places)
	n := len(places)
	collectPlaces(reflect.ValueOf(second), places)
	if n == 0 || len(places) != 2*n {
		t.Errorf("%d and %d places", n, len(places))
	}
}

// collectPlaces adds the addresses of the first elements of all slices in a value.
func collectPlaces(v reflect.Value, places map[uintptr]bool) {
	switch v.Kind() {
	case reflect.Struct:
		for i := range v.NumField() {
			collectPlaces(v.Field(i), places)
		}
	case reflect.Slice:
		if v.Len() > 0 {
			places[v.Pointer()] = true
		}
		for i := range v.Len() {
			collectPlaces(v.Index(i), places)
		}
	}
}

// P20.3: consequences.

func TestLayoutAndParenthesesDoNotMatter(t *testing.T) {
	r := rand.New(rand.NewPCG(20, 4))
	for range 1000 {
		p := randomProgram(r)
		plain := strings.Join(spelling{}.program(p), " ")
		want := mustParse(t, plain)
		for range 3 {
			src := scatter(r, spelling{r}.program(p))
			if got := mustParse(t, src); !Equal(got, want) || !Equal(got, p) {
				t.Fatalf("%q: %#v, not %#v", src, got, want)
			}
		}
	}
}

func TestParenthesesAroundCompleteExpressions(t *testing.T) {
	const src = "func f() { x = E; t[E] = E; f(E, E); if E {} while E {} return E; x = -(E) + t[E] * f(E); }"
	for _, e := range []string{"1", "a", "-a", "a + b", "a || b", "a < b", "f(a, b)", "t[a]", "(a)"} {
		want := mustParse(t, strings.ReplaceAll(src, "E", e))
		for range 5 {
			e = "(" + e + ")"
			if got := mustParse(t, strings.ReplaceAll(src, "E", e)); !Equal(got, want) {
				t.Errorf("%s: %#v, not %#v", e, got, want)
			}
		}
	}
}

func TestTwoSources(t *testing.T) {
	r := rand.New(rand.NewPCG(20, 5))
	for range 1000 {
		p, q := randomProgram(r), randomProgram(r)
		want := api.Program{Vars: slices.Concat(p.Vars, q.Vars), Arrays: slices.Concat(p.Arrays, q.Arrays), Funcs: slices.Concat(p.Funcs, q.Funcs)}
		src := scatter(r, spelling{r}.program(p)) + scatter(r, spelling{r}.program(q))
		if got := parse(src); !got.equals(outcome{p: want}) {
			t.Fatalf("%q: %#v, not %#v", src, got, want)
		}
		if got := parse(Format(p) + Format(q)); !got.equals(outcome{p: want}) {
			t.Fatalf("%#v, not %#v", got, want)
		}
	}
}

func TestFormattedTextIsParsed(t *testing.T) {
	r := rand.New(rand.NewPCG(20, 6))
	for range 2000 {
		p := randomProgram(r)
		text := Format(p)
		if got := parse(text); !got.equals(outcome{p: p}) {
			t.Fatalf("%q: %#v, not %#v", text, got, p)
		}
		if again := Format(mustParse(t, text)); again != text {
			t.Fatalf("%q, not %q", again, text)
		}
	}
}

func TestLongFormattedText(t *testing.T) {
	// A formatted text may be longer than any source text.
	for _, n := range []int{2000, 19000} {
		p := mustParse(t, "func f() {"+strings.Repeat("a=1;", n/2)+"b="+strings.Repeat("1+", n/2)+"1;}")
		text := Format(p)
		want := outcome{p: p}
		if len(text) > mostSource {
			want = outcome{e: api.ErrLimit}
		}
		if got := parse(text); !got.equals(want) {
			t.Errorf("%d bytes: line %d, error %d", len(text), got.line, got.e)
		}
	}
}

// TestFormattedTextAtTheLimit parses formatted texts with as many open constructs as possible.
func TestFormattedTextAtTheLimit(t *testing.T) {
	for _, statements := range []string{"x = -(1 + 2);", "x = a - (b - !c);", "t[-a] = 1;", "f(!(a || b));", "if a { } else { x = (a < b) < c; }"} {
		p := mustParse(t, inBlocks(mostConstructs-3, statements))
		if got := parse(Format(p)); !got.equals(outcome{p: p}) {
			t.Errorf("%q: line %d, error %d", statements, got.line, got.e)
		}
	}
}

func TestLinesOfErrors(t *testing.T) {
	// White space and comments in front of an impossible token move its line only.
	r := rand.New(rand.NewPCG(20, 7))
	for range 300 {
		words := damage(r, spelling{r}.program(randomProgram(r)))
		plain := parse(strings.Join(words, " "))
		lines := parse(strings.Join(words, "\n\n"))
		if plain.e != lines.e || plain.line > 1 || lines.e != api.OK && lines.line%2 != 1 {
			t.Fatalf("%q: line %d, error %d and line %d, error %d", words, plain.line, plain.e, lines.line, lines.e)
		}
		if lines.e != api.OK {
			prefix := "// " + strconv.Itoa(lines.line) + "\n"
			if got := parse(prefix + strings.Join(words, "\n\n")); got.line != lines.line+1 || got.e != lines.e {
				t.Fatalf("%q: line %d, not %d", words, got.line, lines.line+1)
			}
		}
	}
}
