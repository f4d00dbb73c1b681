package checker

import (
	"reflect"
	"slices"
	"strconv"
	"strings"
	"testing"

	"stele/api"
	"stele/parser"
)

// Short constructors of programs.

func num(n uint32) api.Expr                          { return api.Expr{Op: "num", Num: n} }
func scalar(name string) api.Expr                    { return api.Expr{Op: "var", Name: name} }
func operation(op string, args ...api.Expr) api.Expr { return api.Expr{Op: op, Args: args} }
func elem(name string, index api.Expr) api.Expr {
	return api.Expr{Op: "elem", Name: name, Args: []api.Expr{index}}
}
func call(name string, args ...api.Expr) api.Expr {
	return api.Expr{Op: "call", Name: name, Args: args}
}
func returning(x api.Expr) api.Stmt { return api.Stmt{Kind: api.ReturnStmt, Value: []api.Expr{x}} }
func calling(name string, args ...api.Expr) api.Stmt {
	return api.Stmt{Kind: api.CallStmt, Value: []api.Expr{call(name, args...)}}
}
func assign(name string, value api.Expr) api.Stmt {
	return api.Stmt{Kind: api.AssignStmt, Name: name, Value: []api.Expr{value}}
}

// inMain returns a program with some declarations and a main of some statements.
func inMain(body ...api.Stmt) api.Program {
	return api.Program{
		Vars:   []string{"x"},
		Arrays: []api.Array{{Name: "t", Size: 9}},
		Funcs:  []api.Func{{Name: "f", Params: []string{"p", "q"}}, {Name: "main", Locals: []string{"v"}, Body: body}},
	}
}

func mustParse(t *testing.T, src string) api.Program {
	t.Helper()
	p, line, e := parser.Parse(src)
	if e != api.OK {
		t.Fatalf("%.300q: line %d, error %d", src, line, e)
	}
	return p
}

func expect(t *testing.T, p api.Program, name string, e api.Errno) {
	t.Helper()
	if n, got := Check(p); n != name || got != e {
		t.Errorf("%.300q: %q %d, not %q %d", parser.Format(p), n, got, name, e)
	}
}

// P21.1: the rules in their order

func TestExamples(t *testing.T) {
	expect(t, mustParse(t, "var x; func main() { y = 1; }"), "y", api.ErrName)
	expect(t, mustParse(t, "func main(a) { }"), "main", api.ErrNotFound)
}

func TestValidPrograms(t *testing.T) {
	for _, src := range []string{
		"func main() { }",
		"func main() { var main2; halt; }",
		"var x; array t[1]; func main() { x = x; t[x] = t[t[x]]; if x { } while x { } return x; halt; }",
		"var x, y; func f(a, b) { var c; a = b + x; c = y; return f2; } func main() { }",
		"func f(a) { var b; b = a; } func g(a) { var b; b = f(a); return f(f(b)); } func main() { var a, b; f(g(in())); out(f(a) - b); in(); out(in()); }",
		"var main1; array a[75000]; array b[75000]; func main() { }",
		"func f() { return f2(); } func main() { }",
	} {
		p := mustParse(t, strings.ReplaceAll(strings.ReplaceAll(src, "f2()", "in()"), "f2", "x"))
		expect(t, p, "", api.OK)
	}
}

func isNameByHand(s string) bool {
	switch s {
	case "array", "else", "func", "halt", "if", "return", "var", "while", "in", "out", "":
		return false
	}
	return len(s) <= 24 && strings.Trim(s[:1], "abcdefghijklmnopqrstuvwxyz") == "" && strings.Trim(s, "abcdefghijklmnopqrstuvwxyz0123456789_") == ""
}

func someNames() []string {
	list := []string{"", "array", "else", "func", "halt", "if", "return", "var", "while", "in", "out", "arrays", "inn", "i", "ou", "outs", "ifs", "num", "neg", "call",
		"a" + strings.Repeat("b", 22), "a" + strings.Repeat("b", 23), "a" + strings.Repeat("b", 24), "a" + strings.Repeat("_", 60000), "éa", "aé", "a b", " a", "a\n", "n.m"}
	for b := range 256 {
		list = append(list, string([]byte{byte(b)}), "a"+string([]byte{byte(b)}), "ab"+string([]byte{byte(b)}), string([]byte{byte(b), 'b', 'c'}))
	}
	return list
}

func TestNames(t *testing.T) {
	for _, name := range someNames() {
		want, e := name, api.ErrName
		if isNameByHand(name) {
			want, e = "", api.OK
		}
		main := api.Func{Name: "main"}
		for _, p := range []api.Program{
			{Vars: []string{name}, Funcs: []api.Func{main}},
			{Vars: []string{"k", name}, Funcs: []api.Func{main}},
			{Arrays: []api.Array{{Name: name, Size: 1}}, Funcs: []api.Func{main}},
			{Arrays: []api.Array{{Name: "k", Size: 1}, {Name: name, Size: 1}}, Funcs: []api.Func{main}},
			{Funcs: []api.Func{{Name: name}, main}},
			{Funcs: []api.Func{{Name: "k1"}, {Name: name}, main}},
			{Funcs: []api.Func{{Name: "k1", Params: []string{name}}, main}},
			{Funcs: []api.Func{{Name: "k1", Params: []string{"k2", name}}, main}},
			{Funcs: []api.Func{{Name: "k1", Locals: []string{name}}, main}},
			{Funcs: []api.Func{{Name: "k1", Params: []string{"k2"}, Locals: []string{"k3", name}}, main}},
			{Funcs: []api.Func{{Name: "main", Locals: []string{name}}}},
		} {
			if name != "k" {
				expect(t, p, want, e)
			}
		}
	}
}

func TestExists(t *testing.T) {
	for src, name := range map[string]string{
		"var a, b, a; func main() { }":                           "a",
		"var a, b, b, a; func main() { }":                        "b",
		"var a; var b; array b[1]; func main() { }":              "b",
		"array a[1]; array b[1]; array a[1]; func main() { }":    "a",
		"array a[1]; array a[0]; func main() { }":                "a",
		"var a; func a() { } func main() { }":                    "a",
		"array a[1]; func a() { } func main() { }":               "a",
		"func a() { } func b() { } func a() { } func main() { }": "a",
		"func main() { } func main() { }":                        "main",
		"var main; func main() { }":                              "main",
		"func f(a, b, b, a) { } func main() { }":                 "b",
		"func f(a, b) { var c, b; } func main() { }":             "b",
		"func f() { var c, d, d; } func main() { }":              "d",
		"var x; func f(y, x) { } func main() { }":                "x",
		"var x; func f(y) { var z, x; } func main() { }":         "x",
		"array x[1]; func f(x) { } func main() { }":              "x",
		"array x[1]; func f() { var x; } func main() { }":        "x",
		"func f(f) { } func main() { }":                          "f",
		"func f() { var f; } func main() { }":                    "f",
		"func g() { } func f(g) { } func main() { }":             "g",
		"func f(g) { } func g() { } func main() { }":             "g",
		"func f() { var g; } func g() { } func main() { }":       "g",
		"func f(main) { } func main() { }":                       "main",
		"func main() { var main; }":                              "main",
	} {
		expect(t, mustParse(t, src), name, api.ErrExists)
	}
	p := mustParse(t, "func f(a, b) { var c; } func g(a, c) { var b; } func main() { var a, b, c; }")
	expect(t, p, "", api.OK)
}

func TestArraySizes(t *testing.T) {
	const huge = 1<<63 - 1
	for i, c := range []struct {
		sizes []int
		bad   int // the number of the array that violates the rule, from 1
		e     api.Errno
	}{
		{[]int{1}, 0, api.OK},
		{[]int{0}, 1, api.ErrRange},
		{[]int{-1}, 1, api.ErrRange},
		{[]int{-huge - 1}, 1, api.ErrRange},
		{[]int{150000}, 0, api.OK},
		{[]int{150001}, 1, api.ErrLimit},
		{[]int{huge}, 1, api.ErrLimit},
		{[]int{1, huge, huge}, 2, api.ErrLimit},
		{[]int{149999, 1}, 0, api.OK},
		{[]int{150000, 1}, 2, api.ErrLimit},
		{[]int{150000, 0}, 2, api.ErrRange},
		{[]int{150001, 0}, 1, api.ErrLimit},
		{[]int{0, 150001}, 1, api.ErrRange},
		{[]int{-5, 150004}, 1, api.ErrRange},
		{[]int{50000, 50000, 50000}, 0, api.OK},
		{[]int{50000, 50000, 50001}, 3, api.ErrLimit},
		{[]int{50000, 100001, 0}, 2, api.ErrLimit},
		{slices.Repeat([]int{1500}, 100), 0, api.OK},
		{slices.Repeat([]int{1500}, 101), 101, api.ErrLimit},
	} {
		p := api.Program{Funcs: []api.Func{{Name: "main"}}}
		for j, size := range c.sizes {
			p.Arrays = append(p.Arrays, api.Array{Name: "t" + strconv.Itoa(j+1), Size: size})
		}
		want := ""
		if c.bad > 0 {
			want = "t" + strconv.Itoa(c.bad)
		}
		if name, e := Check(p); name != want || e != c.e {
			t.Errorf("%d: %q %d", i, name, e)
		}
	}
}

// TestWellFormedStatements tries all combinations of fields with all kinds.
func TestWellFormedStatements(t *testing.T) {
	valid := map[string]int{}
	inside := []api.Stmt{{Kind: api.HaltStmt}}
	for kind := -1; kind <= 9; kind++ {
		for fields := range 2 * 3 * 3 * 2 * 2 {
			s := api.Stmt{Kind: kind, Name: []string{"", "x"}[fields%2]}
			if kind == api.StoreStmt && s.Name != "" {
				s.Name = "t"
			}
			s.Index = slices.Repeat([]api.Expr{call("in")}, fields/2%3)
			s.Value = slices.Repeat([]api.Expr{call("in")}, fields/6%3)
			s.Then = slices.Repeat(inside, fields/18%2)
			s.Else = slices.Repeat(inside, fields/36)
			name, e := Check(inMain(s))
			switch {
			case e == api.OK && name == "":
				key := strings.Join([]string{strconv.Itoa(kind), s.Name, strconv.Itoa(len(s.Index)), strconv.Itoa(len(s.Value)), strconv.Itoa(len(s.Then)), strconv.Itoa(len(s.Else))}, " ")
				valid[key]++
			case e != api.ErrSyntax || name != "main":
				t.Errorf("%#v: %q %d", s, name, e)
			}
		}
	}
	want := map[string]int{
		"1 x 0 1 0 0": 1, "2 t 1 1 0 0": 1,
		"3  0 1 0 0": 1, "3  0 1 0 1": 1, "3  0 1 1 0": 1, "3  0 1 1 1": 1,
		"4  0 1 0 0": 1, "4  0 1 1 0": 1,
		"5  0 1 0 0": 1, "6  0 1 0 0": 1, "7  0 0 0 0": 1,
	}
	if !reflect.DeepEqual(valid, want) {
		t.Errorf("%v", valid)
	}
}

func TestCallStatements(t *testing.T) {
	for _, x := range []api.Expr{num(1), scalar("x"), elem("t", num(0)), operation("neg", call("in")), operation("not", call("in")), operation("+", call("in"), call("in")), {}, {Name: "in"}} {
		expect(t, inMain(api.Stmt{Kind: api.CallStmt, Value: []api.Expr{x}}), "main", api.ErrSyntax)
	}
	expect(t, inMain(calling("in")), "", api.OK)
}

// TestWellFormedExpressions tries all operators with up to four operands, as every part of a statement.
func TestWellFormedExpressions(t *testing.T) {
	operands := map[string]int{"num": 0, "var": 0, "elem": 1, "neg": 1, "not": 1}
	for _, op := range []string{"||", "&&", "==", "!=", "<", ">", "<=", ">=", "^", "+", "-", "*", "/", "%"} {
		operands[op] = 2
	}
	for _, op := range []string{"", " ", "Num", "number", "+ ", "=", "!", "&", "|", "<>", "(", "call ", "in", "\x00", "if", "**", "-1"} {
		operands[op] = -1
	}
	for op, n := range operands {
		for args := range 5 {
			x := api.Expr{Op: op, Args: slices.Repeat([]api.Expr{num(7)}, args)}
			switch op {
			case "var":
				x.Name = "x"
			case "elem":
				x.Name = "t"
			}
			want, e := "main", api.ErrSyntax
			if args == n {
				want, e = "", api.OK
			}
			for _, s := range everyPart(x) {
				expect(t, inMain(s), want, e)
			}
		}
	}
}

// everyPart returns statements that contain an expression at all places where there can be one.
func everyPart(x api.Expr) []api.Stmt {
	within := []api.Expr{x, operation("neg", x), operation("not", x), elem("t", x), call("out", x), call("f", x, num(1)), call("f", num(1), x), operation("+", x, num(1)), operation("||", num(1), x)}
	var list []api.Stmt
	for _, x := range within {
		value := []api.Expr{x}
		list = append(list, assign("x", x), returning(x), calling("out", x),
			api.Stmt{Kind: api.StoreStmt, Name: "t", Index: value, Value: []api.Expr{num(1)}},
			api.Stmt{Kind: api.StoreStmt, Name: "t", Value: value, Index: []api.Expr{num(1)}},
			api.Stmt{Kind: api.IfStmt, Value: value}, api.Stmt{Kind: api.WhileStmt, Value: value},
			api.Stmt{Kind: api.IfStmt, Value: []api.Expr{num(1)}, Then: []api.Stmt{returning(x)}},
			api.Stmt{Kind: api.IfStmt, Value: []api.Expr{num(1)}, Else: []api.Stmt{returning(x)}},
			api.Stmt{Kind: api.WhileStmt, Value: []api.Expr{num(1)}, Then: []api.Stmt{returning(x)}})
	}
	return list
}

// TestOtherFieldsOfExpressions: a number may have a name, and so on, because only Op and Args have to belong together.
func TestOtherFieldsOfExpressions(t *testing.T) {
	for _, x := range []api.Expr{{Op: "num", Name: "nobody"}, {Op: "var", Name: "x", Num: 5}, {Op: "neg", Name: "t", Num: 5, Args: []api.Expr{num(1)}}, {Op: "+", Name: "?", Args: []api.Expr{num(1), num(2)}}, {Op: "call", Name: "in", Num: 1}} {
		expect(t, inMain(returning(x)), "", api.OK)
	}
}

func TestUsesOfNames(t *testing.T) {
	p := mustParse(t, "var x; array t[9]; func f(a, b) { } func before(n) { var m; } func self(p, q) { var v; } func later() { } func main() { }")
	const ok, name, kind, argument = api.OK, api.ErrName, api.ErrKind, api.ErrArgument
	for _, c := range []struct {
		name                               string
		asScalar, asArray, asCall, asCall1 api.Errno
	}{
		{"x", ok, kind, kind, kind},
		{"p", ok, kind, kind, kind},
		{"q", ok, kind, kind, kind},
		{"v", ok, kind, kind, kind},
		{"t", kind, ok, kind, kind},
		{"before", kind, kind, argument, ok},
		{"self", kind, kind, name, name},
		{"later", kind, kind, name, name},
		{"main", kind, kind, name, name},
		{"in", name, name, ok, argument},
		{"out", name, name, argument, ok},
		{"a", name, name, name, name},
		{"n", name, name, name, name},
		{"m", name, name, name, name},
		{"nobody", name, name, name, name},
		{"", name, name, name, name},
		{"if", name, name, name, name},
		{"X", name, name, name, name},
	} {
		try := func(e api.Errno, list ...api.Stmt) {
			t.Helper()
			for _, s := range list {
				q := copyProgram(p)
				q.Funcs[2].Body = []api.Stmt{s}
				if e == api.OK {
					expect(t, q, "", e)
				} else {
					expect(t, q, c.name, e)
				}
			}
		}
		try(c.asScalar, everyPart(scalar(c.name))...)
		try(c.asArray, everyPart(elem(c.name, num(1)))...)
		try(c.asCall, append(everyPart(call(c.name)), calling(c.name))...)
		try(c.asCall1, append(everyPart(call(c.name, num(1))), calling(c.name, num(1)))...)
		if c.name != "" { // a statement without its name is not well-formed
			try(c.asScalar, assign(c.name, num(1)))
			try(c.asArray, api.Stmt{Kind: api.StoreStmt, Name: c.name, Index: []api.Expr{num(1)}, Value: []api.Expr{num(1)}})
		}
	}
}

func TestNumbersOfArguments(t *testing.T) {
	for parameters := range 4 {
		f := api.Func{Name: "f", Params: []string{"a", "b", "c"}[:parameters], Locals: []string{"d"}}
		for arguments := range 6 {
			p := api.Program{Funcs: []api.Func{f, {Name: "main", Body: []api.Stmt{calling("f", slices.Repeat([]api.Expr{num(1)}, arguments)...)}}}}
			if arguments == parameters {
				expect(t, p, "", api.OK)
			} else {
				expect(t, p, "f", api.ErrArgument)
			}
		}
	}
}

func TestOrderInsideStatements(t *testing.T) {
	const two = "var x; array t[9]; func f(p, q) { } func main() { "
	for body, name := range map[string]string{
		"a = b;":                          "b",
		"a = b + c;":                      "b",
		"a = x + c;":                      "c",
		"a = (x + c) * b;":                "c",
		"a[b] = c;":                       "c",
		"a[b] = x;":                       "b",
		"a[x] = x;":                       "a",
		"a[b[c]] = x;":                    "c",
		"a[b[x]] = x;":                    "b",
		"a[b] = c[d];":                    "d",
		"a[b] = c[x];":                    "c",
		"x = a(b, c);":                    "b",
		"x = a(x, c);":                    "c",
		"x = a(x, t[x]);":                 "a",
		"a(b(c));":                        "c",
		"a(b());":                         "b",
		"a();":                            "a",
		"x = a[b(c)];":                    "c",
		"x = -a[!b];":                     "b",
		"x = !a;":                         "a",
		"if a { b = c; }":                 "a",
		"if x { b = x; } else { c = x; }": "b",
		"if x { x = x; } else { c = x; }": "c",
		"if x { } a = x;":                 "a",
		"if x { while a { b(); } } c();":  "a",
		"if x { while x { b(); } } c();":  "b",
		"if x { while x { } } c();":       "c",
		"while a { b = x; }":              "a",
		"while x { b = x; } c = x;":       "b",
		"return a; return b;":             "a",
		"halt; a = 1; b = 1;":             "a",
		"if 0 { } else { if 0 { } else { a = 1; } } b = 1;": "a",
	} {
		expect(t, mustParse(t, two+body+" }"), name, api.ErrName)
	}
	bad := operation("?")
	for i, c := range []struct {
		s    api.Stmt
		name string
		e    api.Errno
	}{
		{assign("a", operation("+", scalar("b"), bad)), "b", api.ErrName},
		{assign("a", operation("+", bad, scalar("b"))), "main", api.ErrSyntax},
		{assign("a", operation("+", scalar("b"))), "main", api.ErrSyntax},
		{assign("a", call("b", bad)), "main", api.ErrSyntax},
		{assign("a", call("f", bad)), "main", api.ErrSyntax},
		{assign("a", call("f", scalar("b"))), "b", api.ErrName},
		{assign("a", call("f", call("f", scalar("x")))), "f", api.ErrArgument},
		{assign("a", call("x", scalar("b"))), "b", api.ErrName},
		{assign("a", call("f", scalar("x"))), "f", api.ErrArgument},
		{assign("t", call("f", scalar("x"))), "f", api.ErrArgument},
		{assign("t", elem("x", num(1))), "x", api.ErrKind},
		{assign("t", elem("x", elem("f", num(1)))), "f", api.ErrKind},
		{api.Stmt{Kind: api.StoreStmt, Name: "a", Index: []api.Expr{bad}, Value: []api.Expr{scalar("b")}}, "b", api.ErrName},
		{api.Stmt{Kind: api.StoreStmt, Name: "a", Index: []api.Expr{scalar("b")}, Value: []api.Expr{bad}}, "main", api.ErrSyntax},
		{api.Stmt{Kind: api.StoreStmt, Name: "a", Index: []api.Expr{scalar("b")}, Value: []api.Expr{bad, bad}}, "main", api.ErrSyntax},
		{api.Stmt{Kind: api.WhileStmt, Value: []api.Expr{scalar("b")}, Else: []api.Stmt{{}}}, "main", api.ErrSyntax},
		{api.Stmt{Kind: api.WhileStmt, Value: []api.Expr{scalar("b")}, Then: []api.Stmt{{}}}, "b", api.ErrName},
		{api.Stmt{Kind: api.WhileStmt, Value: []api.Expr{scalar("x")}, Then: []api.Stmt{{}, assign("b", num(1))}}, "main", api.ErrSyntax},
		{api.Stmt{Kind: api.IfStmt, Value: []api.Expr{scalar("x")}, Then: []api.Stmt{assign("b", num(1)), {}}}, "b", api.ErrName},
		{api.Stmt{Kind: api.IfStmt, Value: []api.Expr{scalar("x")}, Then: []api.Stmt{assign("b", num(1))}, Else: []api.Stmt{{}}}, "b", api.ErrName},
		{api.Stmt{Kind: api.IfStmt, Value: []api.Expr{scalar("x")}, Then: []api.Stmt{{}}, Else: []api.Stmt{assign("b", num(1))}}, "main", api.ErrSyntax},
	} {
		if name, e := Check(inMain(c.s, api.Stmt{})); name != c.name || e != c.e {
			t.Errorf("%d: %q %d", i, name, e)
		}
	}
}

// TestNameOfTheFunctionInSyntaxErrors: it is the function whose body is malformed, even if it has no valid successor.
func TestNameOfTheFunctionInSyntaxErrors(t *testing.T) {
	for _, s := range []api.Stmt{{}, returning(operation("?")), {Kind: api.IfStmt, Value: []api.Expr{num(1)}, Else: []api.Stmt{{}}}} {
		expect(t, api.Program{Funcs: []api.Func{{Name: "a"}, {Name: "b", Body: []api.Stmt{s}}, {Name: "c", Body: []api.Stmt{s}}}}, "b", api.ErrSyntax)
	}
}

// TestOrderOfRules: of two adjacent violations the one whose rule comes first is reported, wherever the other one stands.
func TestOrderOfRules(t *testing.T) {
	tooDeep := "return " + strings.Repeat("1 || (", 90) + "1" + strings.Repeat(")", 90) + ";"
	for src, want := range map[string]struct {
		name string
		e    api.Errno
	}{
		"var a, a; array a[0];":                          {"a", api.ErrExists},
		"array a[0]; func a() { }":                       {"a", api.ErrExists},
		"array b[0]; func f(f) { }":                      {"b", api.ErrRange},
		"array b[0]; array c[150001]; func f(f) { }":     {"b", api.ErrRange},
		"array c[150001]; array b[0]; func f(f) { }":     {"c", api.ErrLimit},
		"func f() { var a, a; } func g(g) { }":           {"a", api.ErrExists},
		"func f(a) { b = 1; } func g(g) { }":             {"b", api.ErrName},
		"func f(a) { var c, c; b = 1; }":                 {"c", api.ErrExists},
		"func f(c, c) { var f; b = 1; }":                 {"c", api.ErrExists},
		"func f() { b = 1; } func main(a) { }":           {"b", api.ErrName},
		"func main(a) { } func f() { b = 1; }":           {"b", api.ErrName},
		"func main(a) { main = 1; }":                     {"main", api.ErrKind},
		"func f() { f(); } func g() { }":                 {"f", api.ErrName},
		"func f() { " + tooDeep + " } func g() { }":      {"main", api.ErrNotFound},
		"func f() { " + tooDeep + " } func main() { }":   {"", api.OK},
		"func main() { " + tooDeep + " a = 1; }":         {"a", api.ErrName},
		"func f() { " + tooDeep + " }":                   {"main", api.ErrNotFound},
		"func main(a) { " + tooDeep + " }":               {"main", api.ErrNotFound},
		"func main() { " + tooDeep + " }":                {"main", api.ErrLimit},
		"func main() { " + tooDeep + " } func main() {}": {"main", api.ErrExists},
	} {
		expect(t, mustParse(t, src), want.name, want.e)
	}
	p := inMain()
	p.Vars = []string{"ok", "Bad", "ok"}
	p.Arrays[0].Name = "Worse"
	expect(t, p, "Bad", api.ErrName)
	p.Vars = []string{"ok", "ok", "Bad"}
	expect(t, p, "ok", api.ErrExists)
	p.Vars = []string{"Bad", "Bad"}
	expect(t, p, "Bad", api.ErrName)
	p = inMain()
	p.Funcs[0].Params = []string{"x", "Bad"}
	p.Funcs[0].Locals = []string{"if"}
	expect(t, p, "x", api.ErrExists)
	p.Funcs[0].Params = []string{"a", "Bad", "x"}
	expect(t, p, "Bad", api.ErrName)
	p.Funcs[0].Params = nil
	expect(t, p, "if", api.ErrName)
}

func TestMain(t *testing.T) {
	for src, e := range map[string]api.Errno{
		"":                                          api.ErrNotFound,
		"var a; array b[5];":                        api.ErrNotFound,
		"func f() { }":                              api.ErrNotFound,
		"func main() { }":                           api.OK,
		"func f() { } func main() { var x; }":       api.OK,
		"func main() { } func f() { }":              api.ErrNotFound,
		"func main(a) { }":                          api.ErrNotFound,
		"func main(a, b) { }":                       api.ErrNotFound,
		"func mainx() { }":                          api.ErrNotFound,
		"func mai() { }":                            api.ErrNotFound,
		"func main(a) { } func f() { } ":            api.ErrNotFound,
		"func f(a) { } func main() { f(1); }":       api.OK,
		"func f() { main(); } func main() { f(); }": api.ErrName,
	} {
		want := "main"
		if e == api.OK {
			want = ""
		}
		expect(t, mustParse(t, src), want, e)
	}
	expect(t, api.Program{}, "main", api.ErrNotFound)
	expect(t, api.Program{Vars: []string{}, Arrays: []api.Array{}, Funcs: []api.Func{}}, "main", api.ErrNotFound)
}
