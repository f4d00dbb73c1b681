package parser

import (
	"strconv"
	"strings"

	"stele/api"
)

// The strengths of operators, from the weakest to the strongest.
const (
	disjunctions = iota
	conjunctions
	comparisons
	xors
	sums
	products
	unaries
	others
)

// strength returns how strongly an operator binds.
func strength(op string) int {
	switch op {
	case "||":
		return disjunctions
	case "&&":
		return conjunctions
	case "==", "!=", "<", ">", "<=", ">=":
		return comparisons
	case "^":
		return xors
	case "+", "-":
		return sums
	case "*", "/", "%":
		return products
	case "neg", "not":
		return unaries
	}
	return others
}

// Format returns a source text of a program.
func Format(p api.Program) string {
	var w writer
	if len(p.Vars) > 0 {
		w.line("var " + commas(p.Vars) + ";")
	}
	for _, a := range p.Arrays {
		w.line("array " + a.Name + "[" + strconv.Itoa(a.Size) + "];")
	}
	for _, f := range p.Funcs {
		w.function(f)
	}
	return w.text.String()
}

// commas returns names with commas between them.
func commas(names []string) string {
	return strings.Join(names, ", ")
}

// writer collects the lines of a formatted text.
type writer struct {
	text  strings.Builder
	depth int // the number of open braces
}

// line appends a line.
func (w *writer) line(content string) {
	w.text.WriteString(strings.Repeat("  ", w.depth))
	w.text.WriteString(content)
	w.text.WriteString("\n")
}

// function appends the lines of a function.
func (w *writer) function(f api.Func) {
	w.line("func " + f.Name + "(" + commas(f.Params) + ") {")
	if len(f.Locals) > 0 {
		w.line("  var " + commas(f.Locals) + ";")
	}
	w.block(f.Body)
	w.line("}")
}

// block appends the lines of the statements between two braces.
func (w *writer) block(b []api.Stmt) {
	w.depth++
	for _, s := range b {
		w.statement(s)
	}
	w.depth--
}

// statement appends the lines of a statement.
func (w *writer) statement(s api.Stmt) {
	value := formatted(s.Value)
	switch s.Kind {
	case api.AssignStmt:
		w.line(s.Name + " = " + value + ";")
	case api.StoreStmt:
		w.line(s.Name + "[" + formatted(s.Index) + "] = " + value + ";")
	case api.IfStmt:
		w.line("if " + value + " {")
		w.block(s.Then)
		if len(s.Else) > 0 {
			w.line("} else {")
			w.block(s.Else)
		}
		w.line("}")
	case api.WhileStmt:
		w.line("while " + value + " {")
		w.block(s.Then)
		w.line("}")
	case api.ReturnStmt:
		w.line("return " + value + ";")
	case api.CallStmt:
		w.line(value + ";")
	case api.HaltStmt:
		w.line("halt;")
	}
}

// formatted returns the text of expressions with commas between them. It takes a list because a statement need not have an expression where it should.
func formatted(list []api.Expr) string {
	var text strings.Builder
	writeList(&text, list)
	return text.String()
}

// writeList appends expressions with commas between them.
func writeList(text *strings.Builder, list []api.Expr) {
	for i, x := range list {
		if i > 0 {
			text.WriteString(", ")
		}
		writeExpr(text, x)
	}
}

// writeExpr appends an expression.
func writeExpr(text *strings.Builder, x api.Expr) {
	switch x.Op {
	case "num":
		text.WriteString(strconv.FormatUint(uint64(x.Num), 10))
	case "var":
		text.WriteString(x.Name)
	case "elem":
		text.WriteString(x.Name + "[")
		writeList(text, x.Args)
		text.WriteString("]")
	case "call":
		text.WriteString(x.Name + "(")
		writeList(text, x.Args)
		text.WriteString(")")
	case "neg":
		text.WriteString("-")
		writeOperands(text, x)
	case "not":
		text.WriteString("!")
		writeOperands(text, x)
	default:
		writeOperands(text, x)
	}
}

// writeOperands appends the operands of an operation with its operator between them.
func writeOperands(text *strings.Builder, x api.Expr) {
	for i, operand := range x.Args {
		if i > 0 {
			text.WriteString(" " + x.Op + " ")
		}
		if isEnclosed(operand.Op, x.Op, i > 0) {
			text.WriteString("(")
			writeExpr(text, operand)
			text.WriteString(")")
		} else {
			writeExpr(text, operand)
		}
	}
}

// isEnclosed reports whether the operand of an operation is written in parentheses.
func isEnclosed(operand, operation string, onRight bool) bool {
	weak, strong := strength(operand), strength(operation)
	if weak == strong {
		return onRight || strong == comparisons
	}
	return weak < strong
}
