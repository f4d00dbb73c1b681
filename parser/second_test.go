package parser

import (
	"math/rand/v2"
	"slices"
	"strconv"
	"strings"

	"stele/api"
	"stele/lexer"
)

// The sizes as the document writes them.
const (
	mostSource     = 60000
	mostConstructs = 100
)

// grammar is the one of the document without options and repetitions: a line per alternative.
const grammar = `
Program =
Program = Program Variables
Program = Program Array
Program = Program Function
Variables = var Names ;
Names = name
Names = Names , name
Array = array name [ number ] ;
Function = func name ( Params ) { Locals Statements }
Params =
Params = Names
Locals =
Locals = Locals Variables
Statements =
Statements = Statements Statement
Block = { Statements }
Statement = name = Expression ;
Statement = name [ Expression ] = Expression ;
Statement = Call ;
Statement = if Expression Block
Statement = if Expression Block else Block
Statement = while Expression Block
Statement = return Expression ;
Statement = halt ;
Expression = Conjunction
Expression = Expression || Conjunction
Conjunction = Comparison
Conjunction = Conjunction && Comparison
Comparison = Xor
Comparison = Xor == Xor
Comparison = Xor != Xor
Comparison = Xor < Xor
Comparison = Xor > Xor
Comparison = Xor <= Xor
Comparison = Xor >= Xor
Xor = Sum
Xor = Xor ^ Sum
Sum = Product
Sum = Sum + Product
Sum = Sum - Product
Product = Unary
Product = Product * Unary
Product = Product / Unary
Product = Product % Unary
Unary = - Unary
Unary = ! Unary
Unary = Primary
Primary = number
Primary = name
Primary = name [ Expression ]
Primary = Call
Primary = ( Expression )
Call = name ( Arguments )
Arguments =
Arguments = Expressions
Expressions = Expression
Expressions = Expressions , Expression
`

// rule is a production of the grammar.
type rule struct {
	left  string
	right []string
}

var rules = readGrammar()

func readGrammar() []rule {
	var list []rule
	for _, line := range strings.Split(strings.TrimSpace(grammar), "\n") {
		words := strings.Fields(line)
		list = append(list, rule{words[0], words[2:]})
	}
	return list
}

var nullable = map[string]bool{"Program": true, "Params": true, "Locals": true, "Statements": true, "Arguments": true}

// earley follows all derivations of the tokens so far at once: it knows whether there is a program that begins with them.
type earley struct {
	sets [][]item
}

// item is a rule of which some symbols have been found, from a position on.
type item struct{ rule, found, from int }

func newEarley() *earley {
	g := &earley{}
	var start []item
	for i, r := range rules {
		if r.left == "Program" {
			start = append(start, item{i, 0, 0})
		}
	}
	g.add(start)
	return g
}

// add appends a set and all items that follow from its items.
func (g *earley) add(set []item) {
	here := len(g.sets)
	g.sets = append(g.sets, set)
	known := map[item]bool{}
	for _, i := range set {
		known[i] = true
	}
	put := func(i item) {
		if !known[i] {
			known[i] = true
			g.sets[here] = append(g.sets[here], i)
		}
	}
	for n := 0; n < len(g.sets[here]); n++ {
		i := g.sets[here][n]
		next := i.next()
		if next == "" {
			for _, j := range g.sets[i.from] {
				if j.next() == rules[i.rule].left {
					put(item{j.rule, j.found + 1, j.from})
				}
			}
			continue
		}
		for m, r := range rules {
			if r.left == next {
				put(item{m, 0, here})
			}
		}
		if nullable[next] {
			put(item{i.rule, i.found + 1, i.from})
		}
	}
}

// next returns the symbol that an item needs, or nothing if it is complete.
func (i item) next() string {
	if right := rules[i.rule].right; i.found < len(right) {
		return right[i.found]
	}
	return ""
}

// feed reports whether a token can continue the tokens so far, and appends it if it can.
func (g *earley) feed(t api.Token) bool {
	want := t.Text
	switch t.Kind {
	case api.NameToken:
		want = "name"
	case api.NumberToken:
		want = "number"
	}
	var set []item
	for _, i := range g.sets[len(g.sets)-1] {
		if i.next() == want {
			set = append(set, item{i.rule, i.found + 1, i.from})
		}
	}
	if len(set) == 0 {
		return false
	}
	g.add(set)
	return true
}

// isComplete reports whether the tokens so far are a program.
func (g *earley) isComplete() bool {
	return slices.ContainsFunc(g.sets[len(g.sets)-1], func(i item) bool {
		return i.from == 0 && i.next() == "" && rules[i.rule].left == "Program"
	})
}

// endsOperand reports whether an operand can end with a token.
func endsOperand(t api.Token) bool {
	return t.Kind == api.NameToken || t.Kind == api.NumberToken || t.Text == ")" || t.Text == "]"
}

// constructs are the open constructs behind some tokens: brackets, and u for a unary operator.
type constructs struct {
	stack    string
	previous api.Token
}

// feed follows a token and reports whether it opens a construct.
func (c *constructs) feed(t api.Token) bool {
	afterOperand := endsOperand(c.previous)
	if afterOperand && t.Text != "(" && t.Text != "[" {
		c.stack = strings.TrimRight(c.stack, "u")
	}
	c.previous = t
	switch t.Text {
	case ")", "]", "}":
		c.stack = c.stack[:len(c.stack)-1]
	case "(", "[", "{":
		c.stack += t.Text
		return true
	case "-", "!":
		if !afterOperand {
			c.stack += "u"
			return true
		}
	}
	return false
}

// outcome is what Parse returns.
type outcome struct {
	p    api.Program
	line int
	e    api.Errno
}

func parse(src string) outcome {
	p, line, e := Parse(src)
	return outcome{p, line, e}
}

// otherParse finds errors with the grammar, and then takes the tokens apart from outside.
func otherParse(src string) outcome {
	tokens, line, e := lexer.Tokens(src)
	if e != api.OK {
		return outcome{line: line, e: e}
	}
	g := newEarley()
	var open constructs
	for _, t := range tokens {
		if !g.feed(t) {
			return outcome{line: t.Line, e: api.ErrSyntax}
		}
		if open.feed(t) && len(open.stack) > mostConstructs {
			return outcome{line: t.Line, e: api.ErrLimit}
		}
	}
	if !g.isComplete() {
		return outcome{line: tokens[len(tokens)-1].Line, e: api.ErrSyntax}
	}
	return outcome{p: programOf(tokens)}
}

// find returns the index of the first token with a text.
func find(tokens []api.Token, text string) int {
	return slices.IndexFunc(tokens, func(t api.Token) bool { return t.Text == text })
}

// partner returns the index of the bracket that matches the one at an index.
func partner(tokens []api.Token, at int) int {
	depth := 0
	for i := at; ; i++ {
		switch tokens[i].Text {
		case "(", "[", "{":
			depth++
		case ")", "]", "}":
			depth--
		}
		if depth == 0 {
			return i
		}
	}
}

// everySecond returns the names in a list with commas.
func everySecond(tokens []api.Token) []string {
	var names []string
	for i := 0; i < len(tokens); i += 2 {
		names = append(names, tokens[i].Text)
	}
	return names
}

func valueOf(t api.Token) uint32 {
	n, err := strconv.Atoi(t.Text)
	if err != nil || n > 4294967295 {
		panic("no number")
	}
	return uint32(n)
}

func programOf(tokens []api.Token) api.Program {
	var p api.Program
	for len(tokens) > 0 {
		end := find(tokens, ";")
		switch tokens[0].Text {
		case "var":
			p.Vars = append(p.Vars, everySecond(tokens[1:end])...)
		case "array":
			p.Arrays = append(p.Arrays, api.Array{Name: tokens[1].Text, Size: int(valueOf(tokens[3]))})
		case "func":
			end = partner(tokens, find(tokens, "{"))
			p.Funcs = append(p.Funcs, functionOf(tokens[:end]))
		}
		tokens = tokens[end+1:]
	}
	return p
}

func functionOf(tokens []api.Token) api.Func {
	brace := find(tokens, "{")
	f := api.Func{Name: tokens[1].Text, Params: everySecond(tokens[3 : brace-1])}
	tokens = tokens[brace+1:]
	for len(tokens) > 0 && tokens[0].Text == "var" {
		end := find(tokens, ";")
		f.Locals = append(f.Locals, everySecond(tokens[1:end])...)
		tokens = tokens[end+1:]
	}
	f.Body = statementsOf(tokens)
	return f
}

func statementsOf(tokens []api.Token) []api.Stmt {
	var list []api.Stmt
	for len(tokens) > 0 {
		var s api.Stmt
		s, tokens = statementOf(tokens)
		list = append(list, s)
	}
	return list
}

// statementOf returns the first statement and the tokens behind it.
func statementOf(tokens []api.Token) (api.Stmt, []api.Token) {
	first := tokens[0].Text
	if first == "if" || first == "while" {
		return compoundOf(tokens)
	}
	end := find(tokens, ";")
	simple, rest := tokens[:end], tokens[end+1:]
	equals := find(simple, "=")
	switch {
	case first == "halt":
		return api.Stmt{Kind: 7}, rest
	case first == "return":
		return api.Stmt{Kind: 5, Value: []api.Expr{exprOf(simple[1:])}}, rest
	case equals < 0:
		return api.Stmt{Kind: 6, Value: []api.Expr{exprOf(simple)}}, rest
	}
	value := []api.Expr{exprOf(simple[equals+1:])}
	if equals == 1 {
		return api.Stmt{Kind: 1, Name: first, Value: value}, rest
	}
	return api.Stmt{Kind: 2, Name: first, Index: []api.Expr{exprOf(simple[2 : equals-1])}, Value: value}, rest
}

func compoundOf(tokens []api.Token) (api.Stmt, []api.Token) {
	s := api.Stmt{Kind: 4}
	if tokens[0].Text == "if" {
		s.Kind = 3
	}
	brace := find(tokens, "{")
	s.Value = []api.Expr{exprOf(tokens[1:brace])}
	end := partner(tokens, brace)
	s.Then = statementsOf(tokens[brace+1 : end])
	tokens = tokens[end+1:]
	if len(tokens) > 0 && tokens[0].Text == "else" {
		end = partner(tokens, 1)
		s.Else = statementsOf(tokens[2:end])
		tokens = tokens[end+1:]
	}
	return s, tokens
}

// levels are the binary operators from the weakest to the strongest.
var levels = [][]string{{"||"}, {"&&"}, {"==", "!=", "<", ">", "<=", ">="}, {"^"}, {"+", "-"}, {"*", "/", "%"}}

// exprOf divides an expression at the last one of its weakest binary operators.
func exprOf(tokens []api.Token) api.Expr {
	for _, operators := range levels {
		for i := len(tokens) - 1; i > 0; i-- {
			if slices.Contains(operators, tokens[i].Text) && endsOperand(tokens[i-1]) && isOutside(tokens[:i]) {
				return api.Expr{Op: tokens[i].Text, Args: []api.Expr{exprOf(tokens[:i]), exprOf(tokens[i+1:])}}
			}
		}
	}
	first, last := tokens[0], len(tokens)-1
	switch {
	case first.Text == "-":
		return api.Expr{Op: "neg", Args: []api.Expr{exprOf(tokens[1:])}}
	case first.Text == "!":
		return api.Expr{Op: "not", Args: []api.Expr{exprOf(tokens[1:])}}
	case first.Text == "(":
		return exprOf(tokens[1:last])
	case first.Kind == api.NumberToken:
		return api.Expr{Op: "num", Num: valueOf(first)}
	case last == 0:
		return api.Expr{Op: "var", Name: first.Text}
	case tokens[1].Text == "[":
		return api.Expr{Op: "elem", Name: first.Text, Args: []api.Expr{exprOf(tokens[2:last])}}
	}
	return api.Expr{Op: "call", Name: first.Text, Args: argumentsOf(tokens[2:last])}
}

// isOutside reports whether all brackets of some tokens are closed.
func isOutside(tokens []api.Token) bool {
	depth := 0
	for _, t := range tokens {
		switch t.Text {
		case "(", "[":
			depth++
		case ")", "]":
			depth--
		}
	}
	return depth == 0
}

func argumentsOf(tokens []api.Token) []api.Expr {
	var list []api.Expr
	start := 0
	for i := range len(tokens) + 1 {
		if len(tokens) > 0 && (i == len(tokens) || tokens[i].Text == "," && isOutside(tokens[:i])) {
			list = append(list, exprOf(tokens[start:i]))
			start = i + 1
		}
	}
	return list
}

// The rest of this file makes random programs and random sources.

var names = strings.Fields("a b c x1 in out main neg num not elem call var1 z_9 abcdefghijklmnopqrstuvwx")

func randomName(r *rand.Rand) string { return names[r.IntN(len(names))] }

func randomNumber(r *rand.Rand) uint32 {
	return []uint32{0, 1, 2, 10, 65, 4294967295, 4294967294, 2147483648, r.Uint32()}[r.IntN(9)]
}

// several returns up to some random items.
func several[T any](r *rand.Rand, most int, item func() T) []T {
	var list []T
	for range r.IntN(most + 1) {
		list = append(list, item())
	}
	return list
}

func randomExpr(r *rand.Rand, depth int) api.Expr {
	sub := func() api.Expr { return randomExpr(r, depth-1) }
	kind := r.IntN(10)
	if depth == 0 {
		kind = r.IntN(3)
	}
	switch kind {
	case 0:
		return api.Expr{Op: "num", Num: randomNumber(r)}
	case 1:
		return api.Expr{Op: "var", Name: randomName(r)}
	case 2:
		return api.Expr{Op: "call", Name: randomName(r), Args: several(r, min(depth, 3), sub)}
	case 3:
		return api.Expr{Op: "elem", Name: randomName(r), Args: []api.Expr{sub()}}
	case 4:
		return api.Expr{Op: []string{"neg", "not"}[r.IntN(2)], Args: []api.Expr{sub()}}
	}
	operators := levels[r.IntN(len(levels))]
	return api.Expr{Op: operators[r.IntN(len(operators))], Args: []api.Expr{sub(), sub()}}
}

func randomStmt(r *rand.Rand, depth int) api.Stmt {
	value := func() []api.Expr { return []api.Expr{randomExpr(r, r.IntN(4))} }
	block := func() []api.Stmt {
		return several(r, 2, func() api.Stmt { return randomStmt(r, depth-1) })
	}
	kind := 1 + r.IntN(7)
	if depth == 0 && (kind == 3 || kind == 4) {
		kind = 7
	}
	switch kind {
	case 1:
		return api.Stmt{Kind: 1, Name: randomName(r), Value: value()}
	case 2:
		return api.Stmt{Kind: 2, Name: randomName(r), Index: value(), Value: value()}
	case 3:
		return api.Stmt{Kind: 3, Value: value(), Then: block(), Else: block()}
	case 4:
		return api.Stmt{Kind: 4, Value: value(), Then: block()}
	case 5:
		return api.Stmt{Kind: 5, Value: value()}
	case 6:
		call := api.Expr{Op: "call", Name: randomName(r), Args: several(r, 2, func() api.Expr { return randomExpr(r, r.IntN(3)) })}
		return api.Stmt{Kind: 6, Value: []api.Expr{call}}
	}
	return api.Stmt{Kind: 7}
}

func randomProgram(r *rand.Rand) api.Program {
	name := func() string { return randomName(r) }
	return api.Program{
		Vars:   several(r, 3, name),
		Arrays: several(r, 2, func() api.Array { return api.Array{Name: name(), Size: int(randomNumber(r))} }),
		Funcs: several(r, 3, func() api.Func {
			return api.Func{Name: name(), Params: several(r, 3, name), Locals: several(r, 3, name), Body: several(r, 3, func() api.Stmt { return randomStmt(r, 3) })}
		}),
	}
}

// spelling writes a program as words, in one of many ways.
type spelling struct {
	r *rand.Rand
}

// chance is true once in a while, but never for the plainest spelling, which has no source of random numbers.
func (s spelling) chance(one int) bool { return s.r != nil && s.r.IntN(one) == 0 }

// variables declares variables in one or more declarations.
func (s spelling) variables(list []string) []string {
	var words []string
	for i, v := range list {
		switch {
		case i == 0:
			words = append(words, "var", v)
		case s.chance(2):
			words = append(words, ";", "var", v)
		default:
			words = append(words, ",", v)
		}
	}
	if len(list) > 0 {
		words = append(words, ";")
	}
	return words
}

func (s spelling) program(p api.Program) []string {
	var functions, arrays []string
	for _, a := range p.Arrays {
		arrays = append(arrays, "array", a.Name, "[", s.number(uint32(a.Size)), "]", ";")
	}
	for _, f := range p.Funcs {
		functions = append(functions, "func", f.Name, "(")
		functions = append(functions, strings.Fields(strings.Join(f.Params, " , "))...)
		functions = append(functions, ")", "{")
		functions = append(functions, s.variables(f.Locals)...)
		functions = append(functions, s.statements(f.Body)...)
		functions = append(functions, "}")
	}
	if s.chance(2) {
		return slices.Concat(functions, s.variables(p.Vars), arrays)
	}
	return slices.Concat(s.variables(p.Vars), arrays, functions)
}

func (s spelling) number(n uint32) string {
	if s.chance(3) && n >= 32 && n <= 126 && n != 39 && n != 92 && n != 32 && n != 47 {
		return "'" + string(rune(n)) + "'"
	}
	if s.chance(3) {
		return "00" + strconv.Itoa(int(n))
	}
	return strconv.Itoa(int(n))
}

func (s spelling) statements(list []api.Stmt) []string {
	var words []string
	for _, x := range list {
		words = append(words, s.statement(x)...)
	}
	return words
}

func (s spelling) statement(x api.Stmt) []string {
	end := []string{";"}
	block := func(b []api.Stmt) []string { return slices.Concat([]string{"{"}, s.statements(b), []string{"}"}) }
	switch x.Kind {
	case 1:
		return slices.Concat([]string{x.Name, "="}, s.expr(x.Value[0], 0), end)
	case 2:
		return slices.Concat([]string{x.Name, "["}, s.expr(x.Index[0], 0), []string{"]", "="}, s.expr(x.Value[0], 0), end)
	case 3:
		words := slices.Concat([]string{"if"}, s.expr(x.Value[0], 0), block(x.Then))
		if len(x.Else) > 0 || s.chance(3) {
			words = slices.Concat(words, []string{"else"}, block(x.Else))
		}
		return words
	case 4:
		return slices.Concat([]string{"while"}, s.expr(x.Value[0], 0), block(x.Then))
	case 5:
		return slices.Concat([]string{"return"}, s.expr(x.Value[0], 0), end)
	case 6:
		return slices.Concat(s.bare(x.Value[0]), end)
	}
	return []string{"halt", ";"}
}

// level returns the index of an expression's operator in the list of levels, or a number behind them.
func level(x api.Expr) int {
	for i, operators := range levels {
		if slices.Contains(operators, x.Op) {
			return i
		}
	}
	if x.Op == "neg" || x.Op == "not" {
		return len(levels)
	}
	return len(levels) + 1
}

// expr writes an expression where one of at least a level can stand without parentheses.
func (s spelling) expr(x api.Expr, least int) []string {
	words := s.bare(x)
	if level(x) < least || s.chance(6) {
		words = slices.Concat([]string{"("}, words, []string{")"})
	}
	if s.chance(20) {
		words = slices.Concat([]string{"(", "("}, words, []string{")", ")"})
	}
	return words
}

// bare writes an expression without parentheses around it.
func (s spelling) bare(x api.Expr) []string {
	switch l := level(x); {
	case x.Op == "num":
		return []string{s.number(x.Num)}
	case x.Op == "var":
		return []string{x.Name}
	case x.Op == "elem":
		return slices.Concat([]string{x.Name, "["}, s.expr(x.Args[0], 0), []string{"]"})
	case x.Op == "call":
		words := []string{x.Name, "("}
		for i, a := range x.Args {
			if i > 0 {
				words = append(words, ",")
			}
			words = append(words, s.expr(a, 0)...)
		}
		return append(words, ")")
	case x.Op == "neg":
		return slices.Concat([]string{"-"}, s.expr(x.Args[0], l))
	case x.Op == "not":
		return slices.Concat([]string{"!"}, s.expr(x.Args[0], l))
	case l == 2:
		return slices.Concat(s.expr(x.Args[0], l+1), []string{x.Op}, s.expr(x.Args[1], l+1))
	default:
		return slices.Concat(s.expr(x.Args[0], l), []string{x.Op}, s.expr(x.Args[1], l+1))
	}
}

// scatter joins words with random white space and comments.
func scatter(r *rand.Rand, words []string) string {
	gaps := []string{" ", " ", "\n", "\t", "\n\n", " // ; } 1a \xff\n", " //\n\t"}
	var b strings.Builder
	for _, w := range words {
		b.WriteString(w)
		b.WriteString(gaps[r.IntN(len(gaps))])
	}
	return b.String()
}

// damage changes some words.
func damage(r *rand.Rand, words []string) []string {
	vocabulary := strings.Fields("a 1 ( ) [ ] { } - ! + < = , ; var array func if else while return halt && || == 'x' $ 4294967296 1a")
	words = slices.Clone(words)
	for range 1 + r.IntN(2) {
		i := r.IntN(len(words) + 1)
		j := min(i+1, len(words))
		switch r.IntN(4) {
		case 0:
			words = slices.Delete(words, i, j)
		case 1:
			words = slices.Insert(words, i, vocabulary[r.IntN(len(vocabulary))])
		case 2:
			words = slices.Replace(words, i, j, vocabulary[r.IntN(len(vocabulary))])
		case 3:
			words = words[:i]
		}
	}
	return words
}
