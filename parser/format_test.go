package parser

import (
	"math/rand/v2"
	"reflect"
	"slices"
	"strings"
	"testing"

	"stele/api"
)

// otherFormat lays out the words of the plainest spelling.
func otherFormat(p api.Program) string {
	var text strings.Builder
	words := spelling{}.program(p)
	indent := 0
	atStart := true
	for i, w := range words {
		previous, next := "", ""
		if i > 0 {
			previous = words[i-1]
		}
		if i+1 < len(words) {
			next = words[i+1]
		}
		if w == "}" {
			indent--
		}
		if atStart {
			text.WriteString(strings.Repeat("  ", indent))
		} else if isSpaced(words, i, previous, w) {
			text.WriteString(" ")
		}
		text.WriteString(w)
		if w == "{" {
			indent++
		}
		atStart = w == ";" || w == "{" || w == "}" && next != "else"
		if atStart {
			text.WriteString("\n")
		}
	}
	return text.String()
}

// isSpaced reports whether there is a space in front of a word.
func isSpaced(words []string, i int, previous, w string) bool {
	switch {
	case strings.Contains(") ] , ;", w), strings.Contains("( [ !", previous):
		return false
	case previous == "-" && isUnary(words, i-1):
		return false
	case w == "(" || w == "[":
		return !isName(previous)
	}
	return true
}

func isUnary(words []string, i int) bool {
	w := words[i-1]
	return !isName(w) && w != ")" && w != "]" && (w[0] < '0' || w[0] > '9')
}

func isName(w string) bool {
	return w[0] >= 'a' && w[0] <= 'z' && !slices.Contains(strings.Fields("if else while return"), w)
}

// P20.2: the formatted text, and equality in all fields.

func TestFormatLikeTheSecondFormatter(t *testing.T) {
	r := rand.New(rand.NewPCG(20, 8))
	for range 3000 {
		p := randomProgram(r)
		if got, want := Format(p), otherFormat(p); got != want {
			t.Fatalf("%q, not %q", got, want)
		}
	}
}

func TestFormatLines(t *testing.T) {
	for _, x := range []struct{ src, want string }{
		{"", ""},
		{"var a;", "var a;\n"},
		{"var b;var a,c;", "var b, a, c;\n"},
		{"array t[007];", "array t[7];\n"},
		{"array t[1];array u[4294967295];", "array t[1];\narray u[4294967295];\n"},
		{"func f(){} array t[1]; var a;", "var a;\narray t[1];\nfunc f() {\n}\n"},
		{"func f(){}func g(a){}func h(a,b){}", "func f() {\n}\nfunc g(a) {\n}\nfunc h(a, b) {\n}\n"},
		{"func f(){var a;var b,c;}", "func f() {\n  var a, b, c;\n}\n"},
		{"func f(){x=1;t[1]=2;g();g(1,2);return 3;halt;}", "func f() {\n  x = 1;\n  t[1] = 2;\n  g();\n  g(1, 2);\n  return 3;\n  halt;\n}\n"},
		{"func f(){if 1{}}", "func f() {\n  if 1 {\n  }\n}\n"},
		{"func f(){if 1{}else{}}", "func f() {\n  if 1 {\n  }\n}\n"},
		{"func f(){if 1{halt;}else{}}", "func f() {\n  if 1 {\n    halt;\n  }\n}\n"},
		{"func f(){if 1{}else{halt;}}", "func f() {\n  if 1 {\n  } else {\n    halt;\n  }\n}\n"},
		{"func f(){if 1{x=1;}else{x=2;if 2{}}}", "func f() {\n  if 1 {\n    x = 1;\n  } else {\n    x = 2;\n    if 2 {\n    }\n  }\n}\n"},
		{"func f(){while 1{}}", "func f() {\n  while 1 {\n  }\n}\n"},
		{"func f(){while 1{while 2{halt;}}halt;}", "func f() {\n  while 1 {\n    while 2 {\n      halt;\n    }\n  }\n  halt;\n}\n"},
		{"func f(){x='A';}", "func f() {\n  x = 65;\n}\n"},
	} {
		if got := Format(mustParse(t, x.src)); got != x.want {
			t.Errorf("%q: %q, not %q", x.src, got, x.want)
		}
	}
}

func TestFormatExpressions(t *testing.T) {
	for _, x := range []struct {
		expr api.Expr
		want string
	}{
		{num(4294967295), "4294967295"},
		{num(0), "0"},
		{a, "a"},
		{elem("t", operation("||", a, b)), "t[a || b]"},
		{elem("t", elem("u", a)), "t[u[a]]"},
		{call("f"), "f()"},
		{call("f", a), "f(a)"},
		{call("f", operation("||", a, b), operation("neg", c), call("g", num(1), num(2))), "f(a || b, -c, g(1, 2))"},
		{operation("neg", a), "-a"},
		{operation("not", num(1)), "!1"},
		{operation("neg", operation("neg", a)), "--a"},
		{operation("not", operation("neg", operation("not", a))), "!-!a"},
		{operation("neg", elem("t", a)), "-t[a]"},
		{operation("not", call("f", a)), "!f(a)"},
		{operation("neg", operation("*", a, b)), "-(a * b)"},
		{operation("*", operation("neg", a), operation("not", b)), "-a * !b"},
		{operation("-", a, operation("neg", b)), "a - -b"},
		{operation("-", operation("-", a, b), c), "a - b - c"},
		{operation("-", a, operation("-", b, c)), "a - (b - c)"},
		{operation("+", a, operation("+", b, c)), "a + (b + c)"},
		{operation("+", a, operation("-", b, c)), "a + (b - c)"},
		{operation("*", a, operation("%", b, c)), "a * (b % c)"},
		{operation("<", operation("<", a, b), c), "(a < b) < c"},
		{operation("<", a, operation("<", b, c)), "a < (b < c)"},
		{operation("==", operation(">=", a, b), operation("<=", c, d)), "(a >= b) == (c <= d)"},
		{operation("<", operation("^", a, b), c), "a ^ b < c"},
		{operation("^", operation("<", a, b), c), "(a < b) ^ c"},
		{operation("&&", operation("||", a, b), operation("==", c, d)), "(a || b) && c == d"},
		{operation("||", operation("&&", a, b), operation("&&", c, d)), "a && b || c && d"},
		{operation("*", elem("t", operation("+", a, b)), call("f", operation("+", a, b))), "t[a + b] * f(a + b)"},
	} {
		p := api.Program{Funcs: []api.Func{{Name: "f", Body: []api.Stmt{assign("x", x.expr)}}}}
		if got, want := Format(p), "func f() {\n  x = "+x.want+";\n}\n"; got != want {
			t.Errorf("%q, not %q", got, want)
		}
	}
}

// TestFormatAllOperands writes each operator as an operand of each one.
func TestFormatAllOperands(t *testing.T) {
	type operator struct {
		name     string
		strength int
		binary   bool
	}
	operators := []operator{{"neg", 7, false}, {"not", 7, false}}
	for i, level := range levels {
		for _, name := range level {
			operators = append(operators, operator{name, i + 1, true})
		}
	}
	signs := map[string]string{"neg": "-", "not": "!"}
	written := func(o operator, x string) string {
		if o.binary {
			return x + " " + o.name + " b"
		}
		return signs[o.name] + x
	}
	tree := func(o operator, x api.Expr) api.Expr {
		if o.binary {
			return operation(o.name, x, b)
		}
		return operation(o.name, x)
	}
	check := func(x api.Expr, want string) {
		text := Format(api.Program{Funcs: []api.Func{{Name: "f", Body: []api.Stmt{{Kind: api.ReturnStmt, Value: []api.Expr{x}}}}}})
		if text != "func f() {\n  return "+want+";\n}\n" {
			t.Errorf("%q, not %q", text, want)
		}
	}
	for _, outer := range operators {
		for _, inner := range operators {
			operand, text := tree(inner, a), written(inner, "a")
			enclosed := "(" + text + ")"
			if inner.strength > outer.strength || inner.strength == outer.strength && inner.strength != 3 {
				check(tree(outer, operand), written(outer, text))
			} else {
				check(tree(outer, operand), written(outer, enclosed))
			}
			if !outer.binary {
				continue
			}
			if inner.strength > outer.strength {
				check(operation(outer.name, c, operand), "c "+outer.name+" "+text)
			} else {
				check(operation(outer.name, c, operand), "c "+outer.name+" "+enclosed)
			}
		}
	}
}

// TestParenthesesAreNecessary removes each pair of parentheses that the formatted text has around an operand.
func TestParenthesesAreNecessary(t *testing.T) {
	r := rand.New(rand.NewPCG(20, 9))
	removed := 0
	for range 500 {
		p := api.Program{Funcs: []api.Func{{Name: "f", Body: []api.Stmt{assign("x", randomExpr(r, 4))}}}}
		text := Format(p)
		for from := strings.Index(text, "="); from < len(text); from++ {
			if text[from] != '(' || isName(text[from-1:]) || text[from-1] >= '0' && text[from-1] <= '9' {
				continue
			}
			to := closing(text, from)
			without := text[:from] + text[from+1:to] + text[to+1:]
			if got := parse(without); got.e == api.OK && Equal(got.p, p) {
				t.Fatalf("%q needs no parentheses at %d", text, from)
			}
			removed++
		}
	}
	if removed < 500 {
		t.Error(removed)
	}
}

// closing returns the index of the parenthesis that matches the one at an index.
func closing(text string, at int) int {
	depth := 0
	for i := at; ; i++ {
		switch text[i] {
		case '(':
			depth++
		case ')':
			depth--
		}
		if depth == 0 {
			return i
		}
	}
}

// copies returns programs each of which differs from a program in one field or in the length of one slice.
func copies(p api.Program) []api.Program {
	var list []api.Program
	original := reflect.ValueOf(p)
	count := 0
	visit := func(change int) bool {
		c := rebuilt(original, func(s reflect.Value) reflect.Value { return s })
		count = 0
		done := false
		alter(c, func() bool { count++; done = done || count == change; return count == change })
		if done {
			list = append(list, c.Interface().(api.Program))
		}
		return done
	}
	for change := 1; visit(change); change++ {
	}
	return list
}

// alter goes through all fields and changes those for which a function says so.
func alter(v reflect.Value, isChosen func() bool) {
	switch v.Kind() {
	case reflect.Struct:
		for i := range v.NumField() {
			alter(v.Field(i), isChosen)
		}
	case reflect.Slice:
		if isChosen() {
			v.Set(reflect.Append(v, reflect.Zero(v.Type().Elem())))
		}
		if isChosen() && v.Len() > 0 {
			v.Set(v.Slice(0, v.Len()-1))
		}
		if isChosen() && v.Len() > 0 {
			v.Set(v.Slice(1, v.Len()))
		}
		for i := range v.Len() {
			alter(v.Index(i), isChosen)
		}
	case reflect.String:
		if isChosen() {
			v.SetString(v.String() + "x")
		}
	case reflect.Int:
		if isChosen() {
			v.SetInt(v.Int() + 1)
		}
	case reflect.Uint32:
		if isChosen() {
			v.SetUint(v.Uint() ^ 1<<31)
		}
	}
}

func TestEqualNoticesEveryField(t *testing.T) {
	r := rand.New(rand.NewPCG(20, 10))
	different := 0
	for range 60 {
		p := randomProgram(r)
		for _, q := range copies(p) {
			want := reflect.DeepEqual(withNil(p), withNil(q))
			if Equal(p, q) != want || Equal(q, p) != want {
				t.Fatalf("%#v and %#v: not %v", p, q, want)
			}
			if !want {
				different++
			}
		}
	}
	if different < 5000 {
		t.Error(different)
	}
}

func TestEqualOfAllFields(t *testing.T) {
	// Fields that have no meaning in a statement or an expression count, too.
	full := api.Expr{Op: "o", Num: 1, Name: "n", Args: []api.Expr{{Op: "p"}, {Num: 2}}}
	statement := api.Stmt{Kind: 9, Name: "n", Index: []api.Expr{full, full}, Value: []api.Expr{full}, Then: []api.Stmt{{Kind: 7}, {Name: "m"}}, Else: []api.Stmt{{Kind: 8}}}
	p := api.Program{Vars: []string{"a", "b"}, Arrays: []api.Array{{Name: "t", Size: 1}, {}}, Funcs: []api.Func{{Name: "f", Params: []string{"p"}, Locals: []string{"l"}, Body: []api.Stmt{statement, statement}}, {}}}
	if !Equal(p, withNil(p)) {
		t.Error("a copy is different")
	}
	for _, q := range copies(p) {
		want := reflect.DeepEqual(withNil(p), withNil(q))
		if Equal(p, q) != want || Equal(q, p) != want {
			t.Errorf("%#v and %#v: not %v", p, q, want)
		}
	}
}

func TestEqualOfEmptySlices(t *testing.T) {
	r := rand.New(rand.NewPCG(20, 11))
	withEmpty := func(p api.Program) api.Program {
		return rebuilt(reflect.ValueOf(p), func(s reflect.Value) reflect.Value { return s }).Interface().(api.Program)
	}
	programs := []api.Program{{}, {Funcs: []api.Func{{}}}, {Funcs: []api.Func{{Body: []api.Stmt{{Value: []api.Expr{{}}}}}}}}
	for range 300 {
		programs = append(programs, randomProgram(r))
	}
	for _, p := range programs {
		empty, none := withEmpty(p), withNil(p)
		if !Equal(empty, none) || !Equal(none, empty) || !Equal(p, none) || !Equal(empty, empty) {
			t.Fatalf("%#v is different with nil slices", p)
		}
		if Format(empty) != Format(none) {
			t.Fatalf("%q, not %q", Format(empty), Format(none))
		}
	}
	if !Equal(api.Program{}, api.Program{Vars: []string{}}) || Equal(api.Program{}, api.Program{Vars: []string{""}}) {
		t.Error("empty programs")
	}
}

func TestEqualOfRandomPrograms(t *testing.T) {
	r := rand.New(rand.NewPCG(20, 12))
	var list []api.Program
	for range 200 {
		p := randomProgram(r)
		list = append(list, withNil(p), withNil(api.Program{Vars: p.Vars}), withNil(api.Program{Arrays: p.Arrays}))
	}
	for _, p := range list {
		for _, q := range list {
			if Equal(p, q) != reflect.DeepEqual(p, q) {
				t.Fatalf("%#v and %#v", p, q)
			}
		}
	}
}

func TestArgumentsAreNotChanged(t *testing.T) {
	r := rand.New(rand.NewPCG(20, 13))
	for range 300 {
		p, q := randomProgram(r), randomProgram(r)
		before, other := withNil(p), withNil(q)
		Format(p)
		Equal(p, q)
		if !reflect.DeepEqual(withNil(p), before) || !reflect.DeepEqual(withNil(q), other) {
			t.Fatalf("%#v has changed", before)
		}
	}
}

// TestOtherPrograms calls Format and Equal with programs that no source text has.
func TestOtherPrograms(t *testing.T) {
	r := rand.New(rand.NewPCG(20, 14))
	var expr func(depth int) api.Expr
	ops := strings.Fields("num var elem call neg not || && == < ^ + - * % other ( \xff")
	expr = func(depth int) api.Expr {
		x := api.Expr{Num: r.Uint32(), Name: randomName(r)}
		if r.IntN(5) > 0 {
			x.Op = ops[r.IntN(len(ops))]
		}
		if depth > 0 {
			x.Args = several(r, 3, func() api.Expr { return expr(depth - 1) })
		}
		return x
	}
	var stmt func(depth int) api.Stmt
	stmt = func(depth int) api.Stmt {
		list := func() []api.Expr { return several(r, 2, func() api.Expr { return expr(r.IntN(3)) }) }
		s := api.Stmt{Kind: r.IntN(11) - 2, Name: randomName(r), Index: list(), Value: list()}
		if depth > 0 {
			s.Then = several(r, 2, func() api.Stmt { return stmt(depth - 1) })
			s.Else = several(r, 2, func() api.Stmt { return stmt(depth - 1) })
		}
		return s
	}
	for range 3000 {
		p := api.Program{
			Vars:   several(r, 2, func() string { return "\xff" }),
			Arrays: several(r, 2, func() api.Array { return api.Array{Size: -int(r.Uint64() >> r.IntN(64))} }),
			Funcs: several(r, 2, func() api.Func {
				return api.Func{Locals: several(r, 2, func() string { return "" }), Body: several(r, 3, func() api.Stmt { return stmt(2) })}
			}),
		}
		Format(p)
		if !Equal(p, withNil(p)) {
			t.Fatalf("%#v is different from itself", p)
		}
	}
}

func TestDeepPrograms(t *testing.T) {
	const depth = 1 << 16
	x := a
	for range depth {
		x = operation("neg", x)
	}
	p := api.Program{Funcs: []api.Func{{Name: "f", Body: []api.Stmt{assign("x", x)}}}}
	if want := "func f() {\n  x = " + strings.Repeat("-", depth) + "a;\n}\n"; Format(p) != want || !Equal(p, p) {
		t.Error("a deep expression")
	}
	var s api.Stmt
	for range 2000 {
		s = api.Stmt{Kind: api.WhileStmt, Value: []api.Expr{a}, Then: []api.Stmt{s}}
	}
	p = api.Program{Funcs: []api.Func{{Name: "f", Body: []api.Stmt{s}}}}
	if strings.Count(Format(p), "{\n") != 2001 || !Equal(p, p) {
		t.Error("a deep statement")
	}
}
