package source_test

import (
	"fmt"
	"slices"
	"testing"

	"speculate/api"
)

// places are the ways in which an expression may stand in a program.
func places() map[string]func(e api.Expr) api.Program {
	right := number(1)
	l := map[string]func(e api.Expr) api.Program{
		"field": func(e api.Expr) api.Program { return program(assign("a", field(1, e))) },
		"left":  func(e api.Expr) api.Program { return program(assign("a", binary(api.OpAdd, e, right))) },
		"right": func(e api.Expr) api.Program { return program(assign("a", binary(api.OpAdd, right, e))) },
		"deep": func(e api.Expr) api.Program {
			return program(assign("a", binary(api.OpLess, right, field(0, binary(api.OpSub, field(15, e), null())))))
		},
		"last statement":  func(e api.Expr) api.Program { return program(plain(), plain(), assign("a", e)) },
		"first statement": func(e api.Expr) api.Program { return program(assign("a", e), plain(), plain()) },
		"last function": func(e api.Expr) api.Program {
			return of(function("f", plain()), function("g"), function("h", plain(), assign("a", e)))
		},
		"first function": func(e api.Expr) api.Program { return of(function("f", assign("a", e)), function("g", plain())) },
	}
	for kind, s := range rightStmts() {
		for i := range s.Exprs {
			l[fmt.Sprint("expression ", i, " of ", kind)] = func(e api.Expr) api.Program {
				l := slices.Clone(s.Exprs)
				l[i] = e
				s := s
				s.Exprs = l
				return program(s)
			}
		}
	}
	for name, nest := range nests() {
		l[name] = func(e api.Expr) api.Program { return program(plain(), nest(plain(), assign("a", e), plain())) }
		l["deep in "+name] = func(e api.Expr) api.Program { return program(nested(6, nest, assign("a", e))) }
	}
	return l
}

func wantExpr(t *testing.T, e api.Expr, want api.Errno) {
	t.Helper()
	wantEverywhere(t, places(), number(1), e, want)
}

func rightExpr(t *testing.T, l ...api.Expr) {
	t.Helper()
	for _, e := range l {
		wantExpr(t, e, api.OK)
	}
}

func wrongExpr(t *testing.T, l ...api.Expr) {
	t.Helper()
	for _, e := range l {
		wantExpr(t, e, api.ErrInvalid)
	}
}

// withParts returns the expression once with each part set that it does not have.
func withParts(e api.Expr, parts string) []api.Expr {
	var l []api.Expr
	for _, part := range parts {
		one := e
		switch part {
		case 'N':
			for _, n := range []int64{1, -1, 15, most, least} {
				one.N = n
				l = append(l, one)
			}
		case 'S':
			for _, s := range []string{"a", "A", "nil", " ", "\x00"} {
				one.Name = s
				l = append(l, one)
			}
		case 'O':
			for _, op := range []int{api.OpAdd, api.OpEqual, -1, 12, most, least} {
				one.Op = op
				l = append(l, one)
			}
		case 'L':
			one.L = exprs(number(0))
			l = append(l, one)
			one.L = exprs(api.Expr{})
			l = append(l, one)
		}
	}
	return l
}

func TestNumbers(t *testing.T) {
	rightExpr(t, number(0), number(1), number(-1), number(most), number(least), number(17))
	wrongExpr(t, withParts(number(0), "SOL")...)
	wrongExpr(t, withParts(number(least), "SOL")...)
}

func TestNils(t *testing.T) {
	rightExpr(t, null())
	wrongExpr(t, withParts(null(), "NSOL")...)
}

func TestVariables(t *testing.T) {
	rightExpr(t, variable("a"), variable("abcdefghijklmnop"), variable("z9"), variable("unknown"))
	for _, s := range []string{"", "A", "9", "nil", "end", "add", "a b", "abcdefghijklmnopq", "\xff"} {
		wrongExpr(t, variable(s))
	}
	wrongExpr(t, withParts(variable("a"), "NOL")...)
}

func TestFields(t *testing.T) {
	rightExpr(t, field(0, variable("a")), field(1, null()), field(14, number(-1)), field(15, created(16)), field(7, field(8, variable("b"))))
	for _, n := range []int64{-1, 16, 17, most, least, 1 << 32, -1 << 32} {
		wrongExpr(t, field(n, variable("a")))
	}
	wrongExpr(t, api.Expr{Kind: api.EField}, api.Expr{Kind: api.EField, L: exprs()}, api.Expr{Kind: api.EField, L: exprs(null(), null())}, field(0, api.Expr{}))
	wrongExpr(t, withParts(field(3, variable("a")), "SO")...)
}

func TestBinary(t *testing.T) {
	for op := -30; op <= 60; op++ {
		want := api.ErrInvalid
		if op >= api.OpAdd && op <= api.OpEqual {
			want = api.OK
		}
		wantShaped(t, program(assign("a", binary(op, number(1), variable("b")))), want)
		wantShaped(t, program(assign("a", field(2, binary(api.OpAnd, null(), binary(op, number(1), variable("b")))))), want)
	}
	rightExpr(t, binary(api.OpAdd, variable("a"), null()), binary(api.OpEqual, created(0), binary(api.OpDiv, number(0), number(0))))
	wrongExpr(t, binary(0, number(1), number(2)), binary(most, number(1), number(2)), binary(least, number(1), number(2)), binary(api.OpAdd+1<<32, number(1), number(2)))
	one := api.Expr{Kind: api.EBin, Op: api.OpAdd}
	for _, l := range [][]api.Expr{nil, {}, {number(1)}, {number(1), number(2), number(3)}, {number(1), {}}, {{}, number(1)}, {number(1), field(16, null())}} {
		one.L = l
		wrongExpr(t, one)
	}
	wrongExpr(t, withParts(binary(api.OpAdd, variable("a"), null()), "NS")...)
}

func TestNews(t *testing.T) {
	for n := int64(0); n <= 16; n++ {
		wantShaped(t, program(assign("a", created(n))), api.OK)
	}
	rightExpr(t, created(0), created(15), created(16))
	wrongExpr(t, created(-1), created(17), created(most), created(least), created(1<<32), created(1<<32+1))
	wrongExpr(t, withParts(created(0), "SOL")...)
	wrongExpr(t, withParts(created(16), "SOL")...)
}

func TestExprsOfUnknownKinds(t *testing.T) {
	for _, kind := range []int{0, 7, 8, -1, -6, 13, 256, 257, 1 << 32, 1<<32 + 1, most, least} {
		wrongExpr(t, api.Expr{Kind: kind})
	}
	for kind := -20; kind < 40; kind++ {
		if kind >= api.ENum && kind <= api.ENew {
			continue
		}
		for _, e := range []api.Expr{number(1), null(), variable("a"), field(1, null()), binary(api.OpAdd, null(), null()), created(1)} {
			e.Kind = kind
			wantShaped(t, program(assign("a", e)), api.ErrInvalid)
		}
	}
}

func TestExprsNodes(t *testing.T) {
	for n := 1; n <= 40; n++ {
		want := api.OK
		if n > api.MaxNodes {
			want = api.ErrInvalid
		}
		for _, e := range []api.Expr{chain(n, number(1)), chain(n, created(16)), chain(n, variable("b")), tree(n)} {
			if nodes(e) != n {
				t.Fatalf("an expression has %d nodes, not %d", nodes(e), n)
			}
			wantShaped(t, program(assign("a", e)), want)
			wantShaped(t, program(while(plain(), api.Stmt{Kind: api.SStore, Exprs: exprs(number(1), e)})), want)
		}
	}
	for left := 1; left < 15; left++ {
		wantShaped(t, program(assign("a", binary(api.OpMul, tree(left), tree(15-left)))), api.OK)
		wantShaped(t, program(assign("a", binary(api.OpMul, tree(left), chain(16-left, null())))), api.ErrInvalid)
		wantShaped(t, program(assign("a", binary(api.OpMul, chain(left, null()), tree(16-left)))), api.ErrInvalid)
	}
}

// TestNodesOfEachExpression checks that the nodes of several expressions do not add up.
func TestNodesOfEachExpression(t *testing.T) {
	full, over := tree(16), tree(17)
	wantShaped(t, program(call("a", "f", full, full, full, full), call("a", "f", full, full), api.Stmt{Kind: api.SStore, Exprs: exprs(full, full)}), api.OK)
	for i := range 4 {
		l := exprs(full, full, full, full)
		l[i] = over
		wantShaped(t, program(call("a", "f", l...)), api.ErrInvalid)
		l[i] = api.Expr{}
		wantShaped(t, program(call("a", "f", l...)), api.ErrInvalid)
	}
}

// TestLargeExprs are ErrInvalid, whether they are deep, wide or both.
func TestLargeExprs(t *testing.T) {
	wide := api.Expr{Kind: api.EBin, Op: api.OpAdd, L: slices.Repeat(exprs(number(1)), 100000)}
	for _, e := range []api.Expr{chain(1<<16, number(1)), chain(1<<15, wide), wide, tree(1 << 16)} {
		wantShaped(t, program(assign("a", e)), api.ErrInvalid)
		wantShaped(t, program(slices.Repeat(stmts(assign("a", e)), 65)...), api.ErrInvalid)
	}
}

// TestEmptyListsOfExprs checks that a list that must be empty may be nil or not.
func TestEmptyListsOfExprs(t *testing.T) {
	for _, e := range []api.Expr{number(7), null(), variable("a"), created(3)} {
		e.L = exprs()
		rightExpr(t, e)
	}
}

// TestEveryNode compares all combinations of parts with the definition.
func TestEveryNode(t *testing.T) {
	lists := [][]api.Expr{nil, {}, {null()}, {{}}, {null(), null()}, {null(), {}}, {{}, null()}, {null(), null(), null()}}
	right := 0
	for _, kind := range []int{-1, 0, api.ENum, api.ENil, api.EVar, api.EField, api.EBin, api.ENew, 7, 8} {
		for _, n := range []int64{least, -1, 0, 1, 15, 16, 17, most} {
			for _, name := range []string{"", "a", "A", "add"} {
				for _, op := range []int{-1, 0, 1, 11, 12} {
					for _, l := range lists {
						e := api.Expr{Kind: kind, N: n, Name: name, Op: op, L: l}
						p := program(assign("a", field(0, e)))
						wantShaped(t, p, plainProgram(p))
						if plainProgram(p) == api.OK {
							right++
						}
					}
				}
			}
		}
	}
	// There are two empty lists for numbers, nil, variables and new objects, and one list for fields and operators.
	if right != 2*(8+1+1+4)+3+2 {
		t.Errorf("%d nodes are right", right)
	}
}
