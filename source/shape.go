package source

import (
	"math"

	"speculate/api"
	"speculate/value"
)

// exprParts says which parts a kind of expression has: N from leastN to mostN, and so many elements of L. What it has not is zero.
type exprParts struct {
	name, op      bool
	leastN, mostN int64
	elements      int
}

// stmtParts says which parts a kind of statement has: N from 0 to mostN, and from least to most expressions. What it has not is zero.
type stmtParts struct {
	name, function, op bool
	mostN              int64
	least, most        int // expressions
	body, other        bool
}

func partsOfExpr(kind int) (exprParts, bool) {
	switch kind {
	case api.ENum:
		return exprParts{leastN: math.MinInt64, mostN: math.MaxInt64}, true
	case api.ENil:
		return exprParts{}, true
	case api.EVar:
		return exprParts{name: true}, true
	case api.EField:
		return exprParts{mostN: api.MaxFields - 1, elements: 1}, true
	case api.EBin:
		return exprParts{op: true, elements: 2}, true
	case api.ENew:
		return exprParts{mostN: api.MaxFields}, true
	}
	return exprParts{}, false
}

func partsOfStmt(kind int) (stmtParts, bool) {
	switch kind {
	case api.SAssign, api.SAsk:
		return stmtParts{name: true, least: 1, most: 1}, true
	case api.SStore:
		return stmtParts{mostN: api.MaxFields - 1, least: 2, most: 2}, true
	case api.SCall:
		return stmtParts{name: true, function: true, most: api.MaxParams}, true
	case api.SIf:
		return stmtParts{least: 1, most: 1, body: true, other: true}, true
	case api.SFor:
		return stmtParts{name: true, least: 2, most: 2, body: true}, true
	case api.SWhile:
		return stmtParts{least: 1, most: 1, body: true}, true
	case api.SReturn, api.SThrow, api.SEmit:
		return stmtParts{least: 1, most: 1}, true
	case api.STry:
		return stmtParts{name: true, body: true, other: true}, true
	case api.SReduce:
		return stmtParts{name: true, op: true, least: 1, most: 1}, true
	}
	return stmtParts{}, false
}

// Shaped returns api.OK for a program that has the parts that it must have and is within the limits.
func Shaped(p api.Program) api.Errno {
	// ErrInvalid comes first even if it lies beyond what a limit allows, so that all parts are looked at before any limit.
	if !every(p.Funcs, validFunc) {
		return api.ErrInvalid
	}
	if !withinLimits(p) {
		return api.ErrLimit
	}
	return api.OK
}

func validFunc(f api.Func) bool {
	valid := Name(f.Name) && every(f.Params, Name)
	visit(f.Body, func(s api.Stmt, _ int) { valid = valid && validStmt(s) })
	return valid
}

// validStmt reports whether a statement has the parts of its kind. It does not look at the statements within it.
func validStmt(s api.Stmt) bool {
	parts, ok := partsOfStmt(s.Kind)
	return ok && validName(s.Name, parts.name) && validName(s.Func, parts.function) && validOp(s.Op, parts.op) &&
		0 <= s.N && s.N <= parts.mostN &&
		parts.least <= len(s.Exprs) && len(s.Exprs) <= parts.most && every(s.Exprs, validExpr) &&
		(parts.body || len(s.Body) == 0) && (parts.other || len(s.Else) == 0)
}

// validExpr reports whether all nodes of an expression have the parts of their kinds, and whether they are not too many.
func validExpr(e api.Expr) bool {
	left := api.MaxNodes
	var valid func(e api.Expr) bool
	valid = func(e api.Expr) bool {
		left--
		return left >= 0 && validNode(e) && every(e.L, valid)
	}
	return valid(e)
}

func validNode(e api.Expr) bool {
	parts, ok := partsOfExpr(e.Kind)
	return ok && validName(e.Name, parts.name) && validOp(e.Op, parts.op) &&
		parts.leastN <= e.N && e.N <= parts.mostN && len(e.L) == parts.elements
}

func validName(s string, has bool) bool {
	if has {
		return Name(s)
	}
	return s == ""
}

func validOp(op int, has bool) bool {
	if has {
		_, ok := value.Name(op)
		return ok
	}
	return op == 0
}

func withinLimits(p api.Program) bool {
	statements, deepest, params := 0, 0, 0
	for _, f := range p.Funcs {
		params = max(params, len(f.Params))
		visit(f.Body, func(_ api.Stmt, depth int) {
			statements++
			deepest = max(deepest, depth)
		})
	}
	return 1 <= len(p.Funcs) && len(p.Funcs) <= api.MaxFuncs && params <= api.MaxParams &&
		statements <= api.MaxStmts && deepest <= api.MaxNest
}

func every[T any](l []T, ok func(T) bool) bool {
	for _, x := range l {
		if !ok(x) {
			return false
		}
	}
	return true
}
