package checker

import (
	"math/rand/v2"
	"slices"
	"sort"
	"strconv"
	"testing"

	"stele/api"
	"stele/parser"
)

// sum returns an expression whose need is greater by n than that of another one, which is at least 1.
func sum(n int, x api.Expr) api.Expr {
	for range n {
		x = operation("+", num(1), x)
	}
	return x
}

// worth returns an expression with a certain need.
func worth(need int) api.Expr { return sum(need-1, num(0)) }

// needOf finds out with Check alone what a body needs, at least 2: so many places fewer are left that one more violates the limit.
func needOf(t *testing.T, p api.Program) int {
	t.Helper()
	p = copyProgram(p)
	last := len(p.Funcs) - 1
	params := slices.Clone(p.Funcs[last].Params)
	p.Funcs[last].Name = "tested"
	value := call("tested", slices.Repeat([]api.Expr{num(0)}, len(params))...)
	n := sort.Search(needLimit, func(n int) bool {
		main := api.Func{Name: "main", Body: []api.Stmt{returning(sum(n, value))}}
		name, e := Check(api.Program{Vars: p.Vars, Arrays: p.Arrays, Funcs: append(slices.Clone(p.Funcs), main)})
		if e != api.OK && (name != "main" || e != api.ErrLimit) {
			t.Fatalf("%.300q: %q %d", parser.Format(p), name, e)
		}
		return e != api.OK
	})
	return needLimit + 1 - n
}

// P21.1: the need of main

// TestNeedsOfExpressions compares the table of the document, row by row and for all small operands.
func TestNeedsOfExpressions(t *testing.T) {
	program := func(x api.Expr) api.Program { return inMain(returning(x)) }
	try := func(x api.Expr, need int) {
		t.Helper()
		if n := needOf(t, program(x)); n != max(2, need) {
			t.Errorf("%.300q: %d, not %d", parser.Format(program(x)), n, need)
		}
		if m := (&measure{needs: map[string]int{"f": 3}}); m.ofExpr(x) != need {
			t.Errorf("%.300q: %d, not %d", parser.Format(program(x)), m.ofExpr(x), need)
		}
	}
	try(num(0), 1)
	try(scalar("x"), 1)
	try(call("in"), 1)
	for a := range 7 {
		a++
		x := worth(a)
		try(elem("t", x), 1+a)
		try(operation("neg", x), 1+a)
		try(operation("not", x), max(2, a))
		try(call("out", x), a)
		for b := range 7 {
			b++
			y := worth(b)
			for _, op := range []string{"+", "-", "*", "/", "%", "^", "<", "==", ">="} {
				try(operation(op, x, y), max(2, a, 1+b))
			}
			try(operation(">", x, y), max(3, a, 1+b))
			try(operation("<=", x, y), max(3, a, 1+b))
			try(operation("!=", x, y), max(3, 1+a, 2+b))
			try(operation("&&", x, y), max(1+a, 2+b))
			try(operation("||", x, y), max(2+a, 3+b))
			try(call("f", x, y), max(3, a, 1+b))
		}
	}
}

func TestNeedsOfCalls(t *testing.T) {
	for parameters := range 7 {
		names := []string{"a", "b", "c", "d", "e", "g"}[:parameters]
		for inside := range 12 {
			for raised := range parameters + 1 {
				for value := 1; value < 10; value += 4 {
					f := api.Func{Name: "f", Params: names, Body: []api.Stmt{returning(worth(1 + inside))}}
					args := slices.Repeat([]api.Expr{num(0)}, parameters)
					want := max(2, parameters+1, 1+inside)
					if raised < parameters {
						args[raised] = worth(value)
						want = max(want, raised+value)
					}
					tested := api.Func{Name: "main", Body: []api.Stmt{calling("f", args...)}}
					if n := needOf(t, api.Program{Funcs: []api.Func{f, tested}}); n != want {
						t.Errorf("%d parameters, %d inside, argument %d of %d: %d, not %d", parameters, inside, raised, value, n, want)
					}
				}
			}
		}
	}
}

func TestNeedsOfStatements(t *testing.T) {
	value := func(need int) []api.Expr { return []api.Expr{worth(need)} }
	block := func(need int) []api.Stmt { return []api.Stmt{returning(worth(need)), {Kind: api.HaltStmt}} }
	try := func(s api.Stmt, need int) {
		t.Helper()
		m := measure{}
		if n := m.ofStmt(s); n != need {
			t.Errorf("%d, not %d: %.300q", n, need, parser.Format(inMain(s)))
		}
		if n := needOf(t, inMain(s)); n != max(2, need) {
			t.Errorf("%d, not %d: %.300q", n, need, parser.Format(inMain(s)))
		}
	}
	try(api.Stmt{Kind: api.HaltStmt}, 0)
	try(calling("in"), 2)
	for a := 1; a < 8; a++ {
		try(assign("x", worth(a)), max(2, a))
		try(calling("out", worth(a)), max(2, a))
		try(returning(worth(a)), a)
		try(api.Stmt{Kind: api.IfStmt, Value: value(a)}, max(2, a))
		try(api.Stmt{Kind: api.WhileStmt, Value: value(a)}, max(2, a))
		for b := 1; b < 8; b++ {
			try(api.Stmt{Kind: api.StoreStmt, Name: "t", Value: value(a), Index: value(b)}, max(a, 2+b))
			try(api.Stmt{Kind: api.WhileStmt, Value: value(a), Then: block(b)}, max(2, a, b))
			for c := 1; c < 8; c++ {
				try(api.Stmt{Kind: api.IfStmt, Value: value(a), Then: block(b), Else: block(c)}, max(2, a, b, c))
			}
		}
	}
}

func TestNeedsOfFunctions(t *testing.T) {
	for parameters := range 9 {
		names := []string{"a", "b", "c", "d", "e", "g", "h", "i"}[:parameters]
		for inside := range 13 {
			body := []api.Stmt{returning(worth(1)), returning(worth(1 + inside)), {Kind: api.HaltStmt}}
			p := api.Program{Funcs: []api.Func{{Name: "f", Params: names, Body: body}}}
			if n := needOf(t, p); n != max(2, parameters+1, 1+inside) {
				t.Errorf("%d parameters, %d inside: %d", parameters, inside, n)
			}
		}
	}
}

func TestLimitOfNeed(t *testing.T) {
	for need, e := range map[int]api.Errno{199: api.OK, 200: api.OK, 201: api.ErrLimit, 202: api.ErrLimit, 5000: api.ErrLimit} {
		want := ""
		if e != api.OK {
			want = "main"
		}
		expect(t, inMain(returning(worth(need))), want, e)
		expect(t, inMain(assign("x", worth(need-1)), calling("out", worth(need))), want, e)
		expect(t, inMain(assign("x", worth(need)), returning(num(0))), want, e)
		expect(t, inMain(api.Stmt{Kind: api.WhileStmt, Value: []api.Expr{num(1)}, Then: []api.Stmt{returning(worth(need))}}), want, e)
		p := inMain(calling("f", num(1), num(2)))
		p.Funcs[0].Body = []api.Stmt{returning(worth(need))}
		expect(t, p, want, e)
		p.Funcs[1].Body = nil // no call, no limit
		expect(t, p, "", api.OK)
	}
}

// TestManyParameters: a function with 199 parameters needs 200 places.
func TestManyParameters(t *testing.T) {
	for n, e := range map[int]api.Errno{198: api.OK, 199: api.OK, 200: api.ErrLimit} {
		f := api.Func{Name: "f"}
		for i := range n {
			f.Params = append(f.Params, "p"+strconv.Itoa(i))
		}
		want := ""
		if e != api.OK {
			want = "main"
		}
		args := slices.Repeat([]api.Expr{num(0)}, n)
		expect(t, api.Program{Funcs: []api.Func{f, {Name: "main", Body: []api.Stmt{calling("f", args...)}}}}, want, e)
		expect(t, api.Program{Funcs: []api.Func{f, {Name: "main"}}}, "", api.OK)
	}
}

// P21.1: the depth of main

// chain returns functions each of which calls the one before it, and a main that calls the last one. f is any other one.
func chain(depth int, within func(x api.Expr) api.Stmt) api.Program {
	p := api.Program{Funcs: []api.Func{{Name: "f", Params: []string{"p", "q"}}}}
	for i := range depth - 1 {
		f := api.Func{Name: "f" + strconv.Itoa(i)}
		if i > 0 {
			f.Body = []api.Stmt{within(call("f" + strconv.Itoa(i-1)))}
		}
		p.Funcs = append(p.Funcs, f)
	}
	main := api.Func{Name: "main", Body: []api.Stmt{within(call("f" + strconv.Itoa(depth-2)))}}
	p.Funcs = append(p.Funcs, main)
	p.Vars = []string{"x"}
	p.Arrays = []api.Array{{Name: "t", Size: 1}}
	return p
}

func TestLimitOfDepth(t *testing.T) {
	for _, s := range everyPart(num(77)) {
		within := func(x api.Expr) api.Stmt {
			c := copyStmts([]api.Stmt{s})
			replace(&c[0], x)
			return c[0]
		}
		for depth, e := range map[int]api.Errno{2: api.OK, 59: api.OK, 60: api.OK, 61: api.ErrLimit, 62: api.ErrLimit} {
			want := ""
			if e != api.OK {
				want = "main"
			}
			p := chain(depth, within)
			if needs := otherNeeds(p.Funcs); needs[len(needs)-1] > needLimit {
				continue
			}
			expect(t, p, want, e)
			p.Funcs[len(p.Funcs)-1].Body = nil // no call, no limit
			expect(t, p, "", api.OK)
		}
	}
}

// replace puts an expression where the number 77 stands.
func replace(s *api.Stmt, x api.Expr) {
	body := []api.Stmt{*s}
	l := &places{}
	l.addBlock(&body)
	for _, place := range l.exprs {
		if place.Op == "num" && place.Num == 77 {
			*place = x
		}
	}
	*s = body[0]
}

func TestDepthOfBranches(t *testing.T) {
	// The longest way counts, even if a shorter one is found later, and in and out count nothing.
	p := chain(60, returning)
	p.Funcs[60].Body = append(p.Funcs[60].Body, calling("f3"), calling("in"), calling("out", num(1)))
	expect(t, p, "", api.OK)
	p = chain(61, returning)
	p.Funcs[61].Body = append(p.Funcs[61].Body, calling("f3"), calling("in"), calling("out", num(1)))
	expect(t, p, "main", api.ErrLimit)
	p.Funcs[61].Body = []api.Stmt{calling("f3"), calling("f59"), calling("f4")}
	expect(t, p, "main", api.ErrLimit)
	p.Funcs[61].Body = []api.Stmt{calling("f3"), calling("f58"), calling("f4")}
	expect(t, p, "", api.OK)
	p.Funcs[1].Body = []api.Stmt{calling("in"), calling("out", call("in"))}
	expect(t, p, "", api.OK)
}

// TestManyPaths: the number of ways through the calls does not matter.
func TestManyPaths(t *testing.T) {
	p := chain(60, func(x api.Expr) api.Stmt { return returning(operation("+", x, x)) })
	expect(t, p, "", api.OK)
}

// P21.1: the number of scalars

func TestLimitOfScalars(t *testing.T) {
	names := func(n int, letter string) []string {
		var list []string
		for i := range n {
			list = append(list, letter+strconv.Itoa(i))
		}
		return list
	}
	for _, c := range []struct {
		vars, params, locals, others, mains int
		e                                   api.Errno
	}{
		{8000, 0, 0, 0, 0, api.OK},
		{8001, 0, 0, 0, 0, api.ErrLimit},
		{0, 0, 8000, 0, 0, api.OK},
		{0, 0, 8001, 0, 0, api.ErrLimit},
		{0, 8000, 0, 0, 0, api.OK},
		{0, 8001, 0, 0, 0, api.ErrLimit},
		{0, 0, 0, 0, 8000, api.OK},
		{0, 0, 0, 0, 8001, api.ErrLimit},
		{2000, 1000, 1500, 2500, 1000, api.OK},
		{2001, 1000, 1500, 2500, 1000, api.ErrLimit},
		{2000, 1001, 1500, 2500, 1000, api.ErrLimit},
		{2000, 1000, 1501, 2500, 1000, api.ErrLimit},
		{2000, 1000, 1500, 2501, 1000, api.ErrLimit},
		{2000, 1000, 1500, 2500, 1001, api.ErrLimit},
		{20000, 20000, 20000, 20000, 20000, api.ErrLimit},
	} {
		p := api.Program{
			Vars:   names(c.vars, "v"),
			Arrays: []api.Array{{Name: "t", Size: 10000}},
			Funcs: []api.Func{
				{Name: "f", Params: names(c.params, "p"), Locals: names(c.locals, "l")},
				{Name: "g", Params: names(c.others, "p")},
				{Name: "main", Locals: names(c.mains, "p")},
			},
		}
		want := ""
		if c.e != api.OK {
			want = "main"
		}
		if name, e := Check(p); name != want || e != c.e {
			t.Errorf("%v: %q %d", c, name, e)
		}
		if l := Scalars(p); len(l) != c.vars+c.params+c.locals+c.others+c.mains {
			t.Errorf("%v: %d scalars", c, len(l))
		}
	}
}

// P21.1: random programs

func TestCheckIsLikeTheSecondChecker(t *testing.T) {
	r := rand.New(rand.NewPCG(21, 1))
	seen := map[api.Errno]int{}
	for range 30000 {
		p := newAuthor(r).program()
		for range r.IntN(4) {
			change(r, &p)
		}
		name, e := otherCheck(p)
		expect(t, p, name, e)
		seen[e]++
	}
	for _, e := range []api.Errno{api.OK, api.ErrArgument, api.ErrRange, api.ErrSyntax, api.ErrLimit, api.ErrName, api.ErrExists, api.ErrNotFound, api.ErrKind} {
		if seen[e] < 100 {
			t.Errorf("error %d: only %d programs", e, seen[e])
		}
	}
}

func TestNeedsAreLikeThoseOfTheSecondChecker(t *testing.T) {
	r := rand.New(rand.NewPCG(21, 2))
	for range 3000 {
		p := newAuthor(r).program()
		needs := otherNeeds(p.Funcs)
		need, depth := measureMain(p.Funcs)
		if need != needs[len(needs)-1] || depth != otherDepth(p.Funcs) {
			t.Fatalf("%.900q: need %d, depth %d", parser.Format(p), need, depth)
		}
	}
}

// TestLargePrograms reaches the limits of needs and depths by chance.
func TestLargePrograms(t *testing.T) {
	r := rand.New(rand.NewPCG(21, 3))
	seen := map[api.Errno]int{}
	for range 400 {
		p := api.Program{Vars: []string{"x"}, Arrays: []api.Array{{Name: "t", Size: 1}}}
		n := 55 + r.IntN(10)
		for i := range n {
			f := api.Func{Name: "f" + strconv.Itoa(i)}
			if i == n-1 {
				f.Name = "main"
			}
			if i > 0 {
				back := 1 + r.IntN(1+r.IntN(2))
				x := call("f" + strconv.Itoa(max(0, i-back)))
				for range r.IntN(8) {
					x = operation(choose(r, operators), choose(r, []api.Expr{num(1), x}), x)
				}
				f.Body = []api.Stmt{returning(x)}
			}
			p.Funcs = append(p.Funcs, f)
		}
		needs := otherNeeds(p.Funcs)
		want, e := "", api.OK
		if needs[n-1] > needLimit || otherDepthOfChain(p.Funcs) > depthLimit {
			want, e = "main", api.ErrLimit
		}
		if name, got := Check(p); name != want || got != e {
			t.Errorf("%q %d, not %d", name, got, e)
		}
		seen[e]++
	}
	if seen[api.OK] < 20 || seen[api.ErrLimit] < 20 {
		t.Error(seen)
	}
}

// otherDepthOfChain is otherDepth for functions each of which calls one other function, perhaps many times.
func otherDepthOfChain(funcs []api.Func) int {
	depth := 1
	f := funcs[len(funcs)-1]
	for len(f.Body) > 0 {
		x := f.Body[0].Value[0]
		for x.Op != "call" {
			x = x.Args[1]
		}
		f = funcs[slices.IndexFunc(funcs, func(g api.Func) bool { return g.Name == x.Name })]
		depth++
	}
	return depth
}
