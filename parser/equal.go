package parser

import (
	"slices"

	"stele/api"
)

// Equal reports whether two programs are the same.
func Equal(a, b api.Program) bool {
	return slices.Equal(a.Vars, b.Vars) && slices.Equal(a.Arrays, b.Arrays) && slices.EqualFunc(a.Funcs, b.Funcs, equalFuncs)
}

// equalFuncs reports whether two functions are the same.
func equalFuncs(f, g api.Func) bool {
	return f.Name == g.Name && slices.Equal(f.Params, g.Params) && slices.Equal(f.Locals, g.Locals) && equalBlocks(f.Body, g.Body)
}

// equalBlocks reports whether two lists of statements are the same.
func equalBlocks(a, b []api.Stmt) bool {
	return slices.EqualFunc(a, b, equalStmts)
}

// equalStmts reports whether two statements are the same.
func equalStmts(s, t api.Stmt) bool {
	return s.Kind == t.Kind && s.Name == t.Name && equalLists(s.Index, t.Index) && equalLists(s.Value, t.Value) && equalBlocks(s.Then, t.Then) && equalBlocks(s.Else, t.Else)
}

// equalLists reports whether two lists of expressions are the same.
func equalLists(a, b []api.Expr) bool {
	return slices.EqualFunc(a, b, equalExprs)
}

// equalExprs reports whether two expressions are the same.
func equalExprs(x, y api.Expr) bool {
	return x.Op == y.Op && x.Num == y.Num && x.Name == y.Name && equalLists(x.Args, y.Args)
}
