package checker

import (
	"iter"
	"math/big"
	"math/rand/v2"
	"regexp"
	"slices"
	"strings"

	"stele/api"
)

// The sizes as the document writes them.
const (
	arrayLimit  = 150000
	scalarLimit = 8000
	needLimit   = 200
	depthLimit  = 60
	memoryWords = 262144
)

// This is a second checker: it lists the rules of a program one after the other, instead of walking through its tree,
// looks names up in lists, and counts the needs from the outside to the inside.

// fact is a rule at one place of a program: whether it holds, and what is reported otherwise.
type fact struct {
	holds bool
	name  string
	e     api.Errno
}

func otherCheck(p api.Program) (string, api.Errno) {
	for f := range facts(p) {
		if !f.holds {
			return f.name, f.e
		}
	}
	return "", api.OK
}

var namePattern = regexp.MustCompile(`\A[a-z][a-z0-9_]{0,23}\z`)

var reserved = strings.Fields("array else func halt if return var while in out")

func otherIsName(s string) bool { return namePattern.MatchString(s) && !slices.Contains(reserved, s) }

func arrayNames(p api.Program) (names []string) {
	for _, a := range p.Arrays {
		names = append(names, a.Name)
	}
	return names
}

func functionNames(p api.Program) (names []string) {
	for _, f := range p.Funcs {
		names = append(names, f.Name)
	}
	return names
}

func globals(p api.Program) []string { return slices.Concat(p.Vars, arrayNames(p), functionNames(p)) }

// facts lists the rules. A rule is only looked at if all before it hold.
func facts(p api.Program) iter.Seq[fact] {
	return func(yield func(fact) bool) {
		_ = declarations(p, yield) && functions(p, yield) && mainFacts(p, yield)
	}
}

func declarations(p api.Program, yield func(fact) bool) bool {
	all := globals(p)
	for i, name := range all {
		if !yield(fact{otherIsName(name), name, 7}) || !yield(fact{slices.Index(all, name) == i, name, 8}) {
			return false
		}
	}
	total := new(big.Int)
	for _, a := range p.Arrays {
		total.Add(total, big.NewInt(int64(a.Size)))
		if !yield(fact{a.Size >= 1, a.Name, 2}) || !yield(fact{total.Cmp(big.NewInt(arrayLimit)) <= 0, a.Name, 6}) {
			return false
		}
	}
	return true
}

func functions(p api.Program, yield func(fact) bool) bool {
	for i, f := range p.Funcs {
		own := slices.Concat(f.Params, f.Locals)
		seen := slices.Concat(globals(p), own)
		for j, name := range own {
			isNew := slices.Index(seen, name) == len(seen)-len(own)+j
			if !yield(fact{otherIsName(name), name, 7}) || !yield(fact{isNew, name, 8}) {
				return false
			}
		}
		for _, s := range flat(f.Body) {
			if !statementFacts(p, i, s, yield) {
				return false
			}
		}
	}
	return true
}

// flat lists statements together with those inside, in the order in which they are written.
func flat(block []api.Stmt) []api.Stmt {
	var list []api.Stmt
	waiting := slices.Clone(block)
	for len(waiting) > 0 {
		s := waiting[0]
		list = append(list, s)
		waiting = slices.Concat(s.Then, s.Else, waiting[1:])
	}
	return list
}

// shapes are the fields of statements: name, indices, values, Then, Else; a question mark stands for any number.
var shapes = []string{"", "1 0 1 0 0", "1 1 1 0 0", "0 0 1 ? ?", "0 0 1 ? 0", "0 0 1 0 0", "0 0 1 0 0", "0 0 0 0 0"}

func hasShape(s api.Stmt) bool {
	if s.Kind < 1 || s.Kind > 7 {
		return false
	}
	name := min(len(s.Name), 1)
	for i, want := range strings.Fields(shapes[s.Kind]) {
		have := []int{name, len(s.Index), len(s.Value), len(s.Then), len(s.Else)}[i]
		if want != "?" && want != string(rune('0'+min(have, 9))) {
			return false
		}
	}
	return s.Kind != 6 || s.Value[0].Op == "call"
}

func statementFacts(p api.Program, i int, s api.Stmt, yield func(fact) bool) bool {
	if !yield(fact{hasShape(s), p.Funcs[i].Name, 3}) {
		return false
	}
	for _, x := range slices.Concat(s.Value, s.Index) {
		if !expressionFacts(p, i, x, yield) {
			return false
		}
	}
	switch s.Kind {
	case 1:
		return nameFacts(p, i, api.Expr{Op: "var", Name: s.Name}, yield)
	case 2:
		return nameFacts(p, i, api.Expr{Op: "elem", Name: s.Name}, yield)
	}
	return true
}

// arity lists the numbers of operands of all operators but call.
var arity = []string{"num var", "elem neg not", "|| && == != < > <= >= ^ + - * / %"}

func fits(x api.Expr) bool {
	for n, ops := range arity {
		if slices.Contains(strings.Fields(ops), x.Op) {
			return len(x.Args) == n
		}
	}
	return x.Op == "call"
}

func expressionFacts(p api.Program, i int, x api.Expr, yield func(fact) bool) bool {
	if !yield(fact{fits(x), p.Funcs[i].Name, 3}) {
		return false
	}
	for _, a := range x.Args {
		if !expressionFacts(p, i, a, yield) {
			return false
		}
	}
	return nameFacts(p, i, x, yield)
}

func nameFacts(p api.Program, i int, x api.Expr, yield func(fact) bool) bool {
	own := slices.Concat(p.Funcs[i].Params, p.Funcs[i].Locals)
	before := functionNames(p)[:i]
	isScalar := slices.Contains(p.Vars, x.Name) || slices.Contains(own, x.Name)
	isArray := slices.Contains(arrayNames(p), x.Name)
	isFunction := slices.Contains(functionNames(p), x.Name)
	switch x.Op {
	case "var":
		return yield(fact{!isArray && !isFunction, x.Name, 10}) && yield(fact{isScalar, x.Name, 7})
	case "elem":
		return yield(fact{!isScalar && !isFunction, x.Name, 10}) && yield(fact{isArray, x.Name, 7})
	case "call":
		callees := append([]string{"in", "out"}, before...)
		if !yield(fact{!isScalar && !isArray, x.Name, 10}) || !yield(fact{slices.Contains(callees, x.Name), x.Name, 7}) {
			return false
		}
		counts := []int{0, 1}
		for _, f := range p.Funcs[:i] {
			counts = append(counts, len(f.Params))
		}
		return yield(fact{counts[slices.Index(callees, x.Name)] == len(x.Args), x.Name, 1})
	}
	return true
}

func mainFacts(p api.Program, yield func(fact) bool) bool {
	last := api.Func{}
	if len(p.Funcs) > 0 {
		last = p.Funcs[len(p.Funcs)-1]
	}
	if !yield(fact{last.Name == "main" && len(last.Params) == 0, "main", 9}) {
		return false
	}
	scalars := len(p.Vars)
	for _, f := range p.Funcs {
		scalars += len(f.Params) + len(f.Locals)
	}
	n := len(p.Funcs)
	return yield(fact{scalars <= scalarLimit, "main", 6}) &&
		yield(fact{otherNeeds(p.Funcs)[n-1] <= needLimit, "main", 6}) &&
		yield(fact{otherDepth(p.Funcs) <= depthLimit, "main", 6})
}

// placed is an expression with what is already on the stack when it is computed.
type placed struct {
	x     api.Expr
	below int
}

// table gives for each operator its own need, and what lies below each of its operands.
var table = map[string][]int{
	"num": {1}, "var": {1}, "elem": {0, 1}, "neg": {0, 1}, "not": {2, 0},
	"+": {2, 0, 1}, "-": {2, 0, 1}, "*": {2, 0, 1}, "/": {2, 0, 1}, "%": {2, 0, 1}, "^": {2, 0, 1},
	"<": {2, 0, 1}, "==": {2, 0, 1}, ">=": {2, 0, 1}, ">": {3, 0, 1}, "<=": {3, 0, 1}, "!=": {3, 1, 2},
	"&&": {0, 1, 2}, "||": {0, 2, 3},
}

// otherNeed counts the need of expressions. It is told the needs of the functions.
func otherNeed(parts []placed, needs map[string]int) int {
	need := 0
	for len(parts) > 0 {
		part := parts[len(parts)-1]
		parts = parts[:len(parts)-1]
		row := table[part.x.Op]
		switch {
		case part.x.Op == "call" && part.x.Name == "in":
			row = []int{1}
		case part.x.Op == "call" && part.x.Name == "out":
			row = []int{0, 0}
		case part.x.Op == "call":
			row = []int{max(needs[part.x.Name], len(part.x.Args)+1)}
			for i := range part.x.Args {
				row = append(row, i)
			}
		}
		need = max(need, part.below+row[0])
		for i, a := range part.x.Args {
			parts = append(parts, placed{a, part.below + row[i+1]})
		}
	}
	return need
}

// otherNeeds returns the needs of all functions in order.
func otherNeeds(funcs []api.Func) []int {
	needs := map[string]int{}
	var list []int
	for _, f := range funcs {
		need := max(2, len(f.Params)+1)
		for _, s := range flat(f.Body) {
			need = max(need, otherNeed(partsOf(s), needs))
		}
		needs[f.Name] = need
		list = append(list, need)
	}
	return list
}

func partsOf(s api.Stmt) []placed {
	var parts []placed
	for _, x := range s.Value {
		parts = append(parts, placed{x, 0})
	}
	for _, x := range s.Index {
		parts = append(parts, placed{x, 2})
	}
	return parts
}

// otherDepth returns the depth of the last function: how many times one can go on from a set of functions to those that
// they call, beginning with the last one.
func otherDepth(funcs []api.Func) int {
	depth := 0
	for level := funcs[len(funcs)-1:]; len(level) > 0; depth++ {
		var next []api.Func
		for _, f := range funcs {
			if slices.ContainsFunc(level, func(g api.Func) bool { return slices.Contains(callees(g), f.Name) }) {
				next = append(next, f)
			}
		}
		level = next
	}
	return depth
}

func callees(f api.Func) []string {
	var list []string
	var waiting []api.Expr
	for _, s := range flat(f.Body) {
		waiting = slices.Concat(waiting, s.Value, s.Index)
	}
	for len(waiting) > 0 {
		if waiting[0].Op == "call" {
			list = append(list, waiting[0].Name)
		}
		waiting = slices.Concat(waiting[1:], waiting[0].Args)
	}
	return list
}

// The rest of this file makes random programs.

// several returns up to some random items.
func several[T any](r *rand.Rand, most int, item func() T) []T {
	var list []T
	for range r.IntN(most + 1) {
		list = append(list, item())
	}
	return list
}

func choose[T any](r *rand.Rand, list []T) T { return list[r.IntN(len(list))] }

var operators = strings.Fields("|| && == != < > <= >= ^ + - * / %")

// author writes programs that satisfy the rules, except perhaps for the limits.
type author struct {
	r       *rand.Rand
	unused  []string
	p       api.Program
	scalars []string
}

func newAuthor(r *rand.Rand) *author {
	a := &author{r: r, unused: strings.Fields("a b c d x y z t u v f g h i j k abcdefghijklmnopqrstuvwx z_9 x1 mainx in2 outt varr num var1 array1 neg")}
	r.Shuffle(len(a.unused), func(i, j int) { a.unused[i], a.unused[j] = a.unused[j], a.unused[i] })
	return a
}

func (a *author) newName() string {
	name := a.unused[0]
	a.unused = a.unused[1:]
	return name
}

func (a *author) program() api.Program {
	a.p.Vars = several(a.r, 3, a.newName)
	a.p.Arrays = several(a.r, 3, func() api.Array { return api.Array{Name: a.newName(), Size: 1 + a.r.IntN(50000)} })
	n := a.r.IntN(4)
	names := append(several(a.r, n, a.newName), "main")
	unused := a.unused
	for i, name := range names {
		a.unused = slices.Clone(unused)
		f := api.Func{Name: name, Locals: several(a.r, 3, a.newName)}
		if i < len(names)-1 {
			f.Params = several(a.r, 3, a.newName)
		}
		a.scalars = slices.Concat(a.p.Vars, f.Params, f.Locals)
		f.Body = several(a.r, 4, func() api.Stmt { return a.stmt(3) })
		a.p.Funcs = append(a.p.Funcs, f)
	}
	return a.p
}

func (a *author) stmt(depth int) api.Stmt {
	value := func() []api.Expr { return []api.Expr{a.expr(a.r.IntN(4))} }
	block := func() []api.Stmt { return several(a.r, 2, func() api.Stmt { return a.stmt(depth - 1) }) }
	kind := 1 + a.r.IntN(7)
	if kind == 1 && len(a.scalars) == 0 || kind == 2 && len(a.p.Arrays) == 0 || depth == 0 && (kind == 3 || kind == 4) {
		kind = 5 + a.r.IntN(3)
	}
	switch kind {
	case 1:
		return api.Stmt{Kind: 1, Name: choose(a.r, a.scalars), Value: value()}
	case 2:
		return api.Stmt{Kind: 2, Name: choose(a.r, a.p.Arrays).Name, Index: value(), Value: value()}
	case 3:
		return api.Stmt{Kind: 3, Value: value(), Then: block(), Else: block()}
	case 4:
		return api.Stmt{Kind: 4, Value: value(), Then: block()}
	case 5:
		return api.Stmt{Kind: 5, Value: value()}
	case 6:
		return api.Stmt{Kind: 6, Value: []api.Expr{a.call(a.r.IntN(3))}}
	}
	return api.Stmt{Kind: 7}
}

func (a *author) call(depth int) api.Expr {
	i := a.r.IntN(len(a.p.Funcs) + 2)
	if i == len(a.p.Funcs) {
		return api.Expr{Op: "call", Name: "in"}
	}
	x := api.Expr{Op: "call", Name: "out"}
	n := 1
	if i < len(a.p.Funcs) {
		x.Name, n = a.p.Funcs[i].Name, len(a.p.Funcs[i].Params)
	}
	for range n {
		x.Args = append(x.Args, a.expr(max(0, depth-1)))
	}
	return x
}

func (a *author) expr(depth int) api.Expr {
	sub := func() []api.Expr { return []api.Expr{a.expr(depth - 1)} }
	kind := a.r.IntN(10)
	if depth == 0 {
		kind = a.r.IntN(2)
	}
	switch {
	case kind == 0 && len(a.scalars) > 0:
		return api.Expr{Op: "var", Name: choose(a.r, a.scalars)}
	case kind < 2 || depth == 0:
		return api.Expr{Op: "num", Num: a.r.Uint32()}
	case kind == 2 && len(a.p.Arrays) > 0:
		return api.Expr{Op: "elem", Name: choose(a.r, a.p.Arrays).Name, Args: sub()}
	case kind < 5:
		return api.Expr{Op: choose(a.r, []string{"neg", "not"}), Args: sub()}
	case kind == 5:
		return a.call(depth)
	}
	return api.Expr{Op: choose(a.r, operators), Args: append(sub(), sub()...)}
}

// Copies of programs, so that a change of one leaves the other as it is.

func copyExprs(list []api.Expr) []api.Expr {
	list = slices.Clone(list)
	for i := range list {
		list[i].Args = copyExprs(list[i].Args)
	}
	return list
}

func copyStmts(list []api.Stmt) []api.Stmt {
	list = slices.Clone(list)
	for i := range list {
		s := &list[i]
		s.Index, s.Value, s.Then, s.Else = copyExprs(s.Index), copyExprs(s.Value), copyStmts(s.Then), copyStmts(s.Else)
	}
	return list
}

func copyProgram(p api.Program) api.Program {
	p = api.Program{Vars: slices.Clone(p.Vars), Arrays: slices.Clone(p.Arrays), Funcs: slices.Clone(p.Funcs)}
	for i := range p.Funcs {
		f := &p.Funcs[i]
		f.Params, f.Locals, f.Body = slices.Clone(f.Params), slices.Clone(f.Locals), copyStmts(f.Body)
	}
	return p
}

// places are what can be changed in a program.
type places struct {
	names  []*string
	sizes  []*int
	exprs  []*api.Expr
	stmts  []*api.Stmt
	lists  []*[]string
	blocks []*[]api.Stmt
}

func placesOf(p *api.Program) *places {
	l := &places{lists: []*[]string{&p.Vars}}
	for i := range p.Arrays {
		l.names = append(l.names, &p.Arrays[i].Name)
		l.sizes = append(l.sizes, &p.Arrays[i].Size)
	}
	for i := range p.Funcs {
		f := &p.Funcs[i]
		l.names = append(l.names, &f.Name)
		l.lists = append(l.lists, &f.Params, &f.Locals)
		l.addBlock(&f.Body)
	}
	for _, list := range l.lists {
		for i := range *list {
			l.names = append(l.names, &(*list)[i])
		}
	}
	return l
}

func (l *places) addBlock(block *[]api.Stmt) {
	l.blocks = append(l.blocks, block)
	for i := range *block {
		s := &(*block)[i]
		l.stmts = append(l.stmts, s)
		l.names = append(l.names, &s.Name)
		l.addExprs(s.Index)
		l.addExprs(s.Value)
		l.addBlock(&s.Then)
		l.addBlock(&s.Else)
	}
}

func (l *places) addExprs(list []api.Expr) {
	for i := range list {
		l.exprs = append(l.exprs, &list[i])
		l.names = append(l.names, &list[i].Name)
		l.addExprs(list[i].Args)
	}
}

var badNames = []string{"", "A", "9", "_a", "a-b", "aB", "in", "out", "if", "while", "func", "abcdefghijklmnopqrstuvwxy", "a\x00", "\xff", "é", "main", "zz"}

// change changes a program at one random place.
func change(r *rand.Rand, p *api.Program) {
	l := placesOf(p)
	anyName := func() string {
		if r.IntN(3) == 0 || len(l.names) == 0 {
			return choose(r, badNames)
		}
		return *choose(r, l.names)
	}
	anyExpr := func() api.Expr {
		if r.IntN(2) == 0 && len(l.exprs) > 0 {
			return copyExprs([]api.Expr{*choose(r, l.exprs)})[0]
		}
		return api.Expr{Op: choose(r, strings.Fields("num var elem call neg not && + & Num halt")), Name: anyName()}
	}
	switch kind := r.IntN(12); {
	case kind < 4 && len(l.names) > 0:
		*choose(r, l.names) = anyName()
	case kind == 4:
		list := choose(r, l.lists)
		*list = slices.Insert(*list, r.IntN(len(*list)+1), anyName())
	case kind == 5 && len(l.sizes) > 0:
		*choose(r, l.sizes) = []int{0, -1, 1, 75000, 149999, 150000, 150001, 1 << 62, -1 << 63, 1<<63 - 1}[r.IntN(10)]
	case kind == 6 && len(l.exprs) > 0:
		choose(r, l.exprs).Op = choose(r, append(operators, "num", "var", "elem", "call", "neg", "not", "", "=", "in"))
	case kind == 7 && len(l.exprs) > 0:
		x := choose(r, l.exprs)
		if len(x.Args) > 0 && r.IntN(2) == 0 {
			x.Args = x.Args[1:]
		} else {
			x.Args = append(x.Args, anyExpr())
		}
	case kind == 8 && len(l.stmts) > 0:
		choose(r, l.stmts).Kind = r.IntN(11) - 1
	case kind == 9 && len(l.stmts) > 0:
		s := choose(r, l.stmts)
		part := choose(r, []*[]api.Expr{&s.Index, &s.Value})
		*part = choose(r, [][]api.Expr{nil, {anyExpr()}, append(*part, anyExpr())})
	case kind == 10 && len(l.blocks) > 0:
		block := choose(r, l.blocks)
		*block = append(*block, api.Stmt{Kind: 5 + r.IntN(3), Value: []api.Expr{anyExpr()}})
	case kind == 11 && len(p.Funcs) > 0:
		i, j := r.IntN(len(p.Funcs)), r.IntN(len(p.Funcs))
		p.Funcs[i], p.Funcs[j] = p.Funcs[j], p.Funcs[i]
	}
}
