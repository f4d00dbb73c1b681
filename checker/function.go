package checker

import "stele/api"

// scope is what is declared where a statement stands.
type scope struct {
	function string
	globals  map[string]int  // the kinds of all globals
	callable map[string]int  // the numbers of parameters of the functions that may be called
	own      map[string]bool // the parameters and locals of the function
}

// checkFunctions checks the scalars and the bodies of functions.
func checkFunctions(funcs []api.Func, globals map[string]int) {
	callable := map[string]int{inputName: 0, outputName: 1}
	for _, f := range funcs {
		s := scope{f.Name, globals, callable, map[string]bool{}}
		s.declare(f.Params)
		s.declare(f.Locals)
		s.checkBlock(f.Body)
		callable[f.Name] = len(f.Params)
	}
}

// declare checks the names of scalars and adds them to the scope.
func (s scope) declare(names []string) {
	for _, name := range names {
		require(isName(name), name, api.ErrName)
		require(s.globals[name] == 0 && !s.own[name], name, api.ErrExists)
		s.own[name] = true
	}
}

// checkBlock checks statements in the order in which they are written.
func (s scope) checkBlock(block []api.Stmt) {
	for _, stmt := range block {
		s.checkStmt(stmt)
		s.checkBlock(stmt.Then)
		s.checkBlock(stmt.Else)
	}
}

// checkStmt checks a statement without those inside it.
func (s scope) checkStmt(stmt api.Stmt) {
	require(isWellFormed(stmt), s.function, api.ErrSyntax)
	s.checkAll(stmt.Value)
	s.checkAll(stmt.Index)
	switch stmt.Kind {
	case api.AssignStmt:
		s.checkScalar(stmt.Name)
	case api.StoreStmt:
		s.checkArray(stmt.Name)
	}
}

// isWellFormed reports whether a statement has exactly the fields of its kind.
func isWellFormed(stmt api.Stmt) bool {
	switch stmt.Kind {
	case api.AssignStmt:
		return stmt.Name != "" && hasParts(stmt, 0, 1) && isFlat(stmt)
	case api.StoreStmt:
		return stmt.Name != "" && hasParts(stmt, 1, 1) && isFlat(stmt)
	case api.IfStmt:
		return stmt.Name == "" && hasParts(stmt, 0, 1)
	case api.WhileStmt:
		return stmt.Name == "" && hasParts(stmt, 0, 1) && len(stmt.Else) == 0
	case api.ReturnStmt:
		return stmt.Name == "" && hasParts(stmt, 0, 1) && isFlat(stmt)
	case api.CallStmt:
		return stmt.Name == "" && hasParts(stmt, 0, 1) && isFlat(stmt) && stmt.Value[0].Op == "call"
	case api.HaltStmt:
		return stmt.Name == "" && hasParts(stmt, 0, 0) && isFlat(stmt)
	}
	return false
}

// hasParts reports whether a statement has certain numbers of indices and values.
func hasParts(stmt api.Stmt, indices, values int) bool {
	return len(stmt.Index) == indices && len(stmt.Value) == values
}

// isFlat reports whether a statement has no statements inside.
func isFlat(stmt api.Stmt) bool {
	return len(stmt.Then) == 0 && len(stmt.Else) == 0
}

// checkAll checks expressions in order.
func (s scope) checkAll(exprs []api.Expr) {
	for _, x := range exprs {
		s.checkExpr(x)
	}
}

// checkExpr checks an expression: its operands before its name.
func (s scope) checkExpr(x api.Expr) {
	require(hasOperands(x.Op, len(x.Args)), s.function, api.ErrSyntax)
	s.checkAll(x.Args)
	switch x.Op {
	case "var":
		s.checkScalar(x.Name)
	case "elem":
		s.checkArray(x.Name)
	case "call":
		s.checkCall(x.Name, len(x.Args))
	}
}

// hasOperands reports whether an operator belongs together with a number of operands.
func hasOperands(op string, n int) bool {
	switch op {
	case "num", "var":
		return n == 0
	case "elem", "neg", "not":
		return n == 1
	case "call":
		return true
	case "||", "&&", "==", "!=", "<", ">", "<=", ">=", "^", "+", "-", "*", "/", "%":
		return n == 2
	}
	return false
}

// checkScalar checks a name that is used as a variable.
func (s scope) checkScalar(name string) {
	kind := s.globals[name]
	require(kind != array && kind != function, name, api.ErrKind)
	require(kind == variable || s.own[name], name, api.ErrName)
}

// checkArray checks a name that is indexed.
func (s scope) checkArray(name string) {
	kind := s.globals[name]
	require(kind != variable && kind != function && !s.own[name], name, api.ErrKind)
	require(kind == array, name, api.ErrName)
}

// checkCall checks a name that is called with a number of arguments.
func (s scope) checkCall(name string, arguments int) {
	kind := s.globals[name]
	require(kind != variable && kind != array && !s.own[name], name, api.ErrKind)
	parameters, isCallable := s.callable[name]
	require(isCallable, name, api.ErrName)
	require(arguments == parameters, name, api.ErrArgument)
}
