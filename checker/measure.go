package checker

import "stele/api"

// measure holds the stack needs and the depths of functions whose rules have been checked.
type measure struct {
	needs  map[string]int
	depths map[string]int
	called int // the greatest depth of a function that the current one calls
}

// measureMain returns the need and the depth of the last function. The others come before it, because they are what it calls.
func measureMain(funcs []api.Func) (need, depth int) {
	m := measure{map[string]int{}, map[string]int{}, 0}
	for _, f := range funcs {
		m.called = 0
		need = max(2, len(f.Params)+1, m.ofBlock(f.Body))
		depth = m.called + 1
		m.needs[f.Name], m.depths[f.Name] = need, depth
	}
	return need, depth
}

// ofBlock returns the greatest need of statements.
func (m *measure) ofBlock(block []api.Stmt) int {
	need := 0
	for _, s := range block {
		need = max(need, m.ofStmt(s))
	}
	return need
}

// ofStmt returns the need of a statement.
func (m *measure) ofStmt(s api.Stmt) int {
	switch s.Kind {
	case api.HaltStmt:
		return 0
	case api.ReturnStmt:
		return m.ofExpr(s.Value[0])
	case api.StoreStmt:
		return max(m.ofExpr(s.Value[0]), 2+m.ofExpr(s.Index[0]))
	}
	return max(2, m.ofExpr(s.Value[0]), m.ofBlock(s.Then), m.ofBlock(s.Else))
}

// ofExpr returns the need of an expression.
func (m *measure) ofExpr(x api.Expr) int {
	switch x.Op {
	case "num", "var":
		return 1
	case "elem", "neg":
		return 1 + m.ofExpr(x.Args[0])
	case "not":
		return max(2, m.ofExpr(x.Args[0]))
	case "call":
		return m.ofCall(x.Name, x.Args)
	}
	return ofOperation(x.Op, m.ofExpr(x.Args[0]), m.ofExpr(x.Args[1]))
}

// ofCall returns the need of a call.
func (m *measure) ofCall(name string, args []api.Expr) int {
	switch name {
	case inputName:
		return 1
	case outputName:
		return m.ofExpr(args[0])
	}
	m.called = max(m.called, m.depths[name])
	need := max(len(args)+1, m.needs[name])
	for i, a := range args {
		need = max(need, i+m.ofExpr(a))
	}
	return need
}

// ofOperation returns the need of a binary operation on operands with the needs a and b.
func ofOperation(op string, a, b int) int {
	switch op {
	case "||":
		return max(2+a, 3+b)
	case "&&":
		return max(1+a, 2+b)
	case "!=":
		return max(3, 1+a, 2+b)
	case ">", "<=":
		return max(3, a, 1+b)
	}
	return max(2, a, 1+b)
}
