package check_test

import (
	"fmt"
	"slices"
	"strings"
	"testing"

	"speculate/api"
)

func number(n int64) api.Expr { return api.Expr{Kind: api.ENum, N: n} }

func assign(name string, e api.Expr) api.Stmt {
	return api.Stmt{Kind: api.SAssign, Name: name, Exprs: []api.Expr{e}}
}

func field(n int64, of api.Expr) api.Expr {
	return api.Expr{Kind: api.EField, N: n, L: []api.Expr{of}}
}

// chain is an expression of so many nodes, one within the other.
func chain(nodes int) api.Expr {
	e := number(1)
	for range nodes - 1 {
		e = field(1, e)
	}
	return e
}

// deep is a statement so many deep.
func deep(depth int) api.Stmt {
	s := assign("a", number(1))
	for range depth - 1 {
		s = api.Stmt{Kind: api.SWhile, Exprs: []api.Expr{number(1)}, Body: []api.Stmt{s}}
	}
	return s
}

func many[T any](n int, x T) []T {
	return slices.Repeat([]T{x}, n)
}

// wrongStmts are statements that are not what they must be.
func wrongStmts() []api.Stmt {
	one := []api.Expr{number(1)}
	l := []api.Stmt{
		{}, {Kind: 13, Exprs: one}, {Kind: -1}, {Kind: api.SAssign, Name: "a"}, {Kind: api.SAssign, Exprs: one}, assign("end", number(1)), assign("A", number(1)),
		{Kind: api.SAssign, Name: "a", Exprs: one, N: 1}, {Kind: api.SAssign, Name: "a", Exprs: one, Func: "g"}, {Kind: api.SAssign, Name: "a", Exprs: one, Op: 1},
		{Kind: api.SStore, N: 16, Exprs: many(2, number(1))}, {Kind: api.SStore, N: -1, Exprs: many(2, number(1))}, {Kind: api.SStore, Exprs: one},
		{Kind: api.SCall, Name: "a"}, {Kind: api.SCall, Func: "g"}, {Kind: api.SCall, Name: "a", Func: "add"}, {Kind: api.SCall, Name: "a", Func: "g", Exprs: many(5, number(1))},
		{Kind: api.SIf}, {Kind: api.SIf, Name: "a", Exprs: one}, {Kind: api.SFor, Exprs: many(2, number(1))}, {Kind: api.SFor, Name: "a", Exprs: one},
		{Kind: api.SWhile, Exprs: one, Else: []api.Stmt{deep(1)}}, {Kind: api.SReturn}, {Kind: api.SThrow}, {Kind: api.SEmit, Exprs: many(2, number(1))},
		{Kind: api.STry}, {Kind: api.STry, Name: "e", Exprs: one}, {Kind: api.SAsk, Exprs: one}, {Kind: api.SReduce, Name: "a", Exprs: one}, {Kind: api.SReduce, Name: "a", Op: 12, Exprs: one},
	}
	for _, e := range []api.Expr{
		{}, {Kind: 7}, {Kind: api.ENum, Name: "a"}, {Kind: api.ENil, N: 1}, {Kind: api.EVar}, {Kind: api.EVar, Name: "nil"}, {Kind: api.EField}, field(16, number(1)), field(-1, number(1)), field(1, api.Expr{}),
		{Kind: api.EBin, Op: 1}, {Kind: api.EBin, Op: 12, L: many(2, number(1))}, {Kind: api.EBin, L: many(2, number(1))}, {Kind: api.ENew, N: 17}, {Kind: api.ENew, N: -1}, chain(17),
	} {
		l = append(l, assign("a", e))
	}
	return l
}

// withWrong are the functions of a program, one of which gets something that makes it wrong.
func withWrong(t *testing.T, at int, spoil func(f *api.Func)) api.Program {
	t.Helper()
	p := program(t, written(others()...))
	spoil(&p.Funcs[at])
	return p
}

// wantNotShaped checks that the index is 0 wherever a program is not shaped.
func wantNotShaped(t *testing.T, want api.Errno, spoil func(f *api.Func)) {
	t.Helper()
	for at := range others() {
		wantCheck(t, withWrong(t, at, spoil), 0, want)
	}
}

func TestPartsOfStmts(t *testing.T) {
	for _, s := range wrongStmts() {
		wantNotShaped(t, api.ErrInvalid, func(f *api.Func) { f.Body = append(f.Body, s) })
		wantNotShaped(t, api.ErrInvalid, func(f *api.Func) { f.Body = slices.Insert(f.Body, 0, s) })
		for _, nest := range []api.Stmt{{Kind: api.SIf, Exprs: []api.Expr{number(1)}}, {Kind: api.STry, Name: "e"}} {
			wantNotShaped(t, api.ErrInvalid, func(f *api.Func) {
				nest.Body, nest.Else = []api.Stmt{deep(1), s}, nil
				f.Body = append(f.Body, nest)
			})
			wantNotShaped(t, api.ErrInvalid, func(f *api.Func) {
				nest.Body, nest.Else = nil, []api.Stmt{deep(1), s}
				f.Body = append(f.Body, nest)
			})
		}
	}
}

func TestLargeExpressions(t *testing.T) {
	for _, nodes := range []int{api.MaxNodes + 1, 1 << 16} {
		wantNotShaped(t, api.ErrInvalid, func(f *api.Func) { f.Body = append(f.Body, assign("a", chain(nodes))) })
	}
	wantCheck(t, withWrong(t, 1, func(f *api.Func) { f.Body = append(f.Body, assign("a", chain(api.MaxNodes))) }), 0, api.OK)
}

func TestPartsOfFunctions(t *testing.T) {
	for _, name := range []string{"", "A", "1", "end", "add", "a b", "abcdefghijklmnopq", "\xff", strings.Repeat("a", 1<<16)} {
		wantNotShaped(t, api.ErrInvalid, func(f *api.Func) { f.Name = name })
		wantNotShaped(t, api.ErrInvalid, func(f *api.Func) { f.Params = append(f.Params, name) })
		wantNotShaped(t, api.ErrInvalid, func(f *api.Func) { f.Params = slices.Insert(f.Params, 0, name) })
	}
	wantCheck(t, api.Program{Funcs: make([]api.Func, 1)}, 0, api.ErrInvalid)
	wantCheck(t, api.Program{Funcs: make([]api.Func, 100)}, 0, api.ErrInvalid)
}

func TestNoFunctions(t *testing.T) {
	wantCheck(t, api.Program{}, 0, api.ErrLimit)
	wantCheck(t, api.Program{Funcs: []api.Func{}}, 0, api.ErrLimit)
	wantText(t, "func f; end", 0, api.OK)
}

func TestLimitsOfShaped(t *testing.T) {
	for n := 1; n <= 2*api.MaxFuncs; n++ {
		p := api.Program{}
		for i := range n {
			p.Funcs = append(p.Funcs, api.Func{Name: fmt.Sprint("f", i)})
		}
		want := api.OK
		if n > api.MaxFuncs {
			want = api.ErrLimit
		}
		wantCheck(t, p, 0, want)
	}
	wantNotShaped(t, api.ErrLimit, func(f *api.Func) { f.Params = strings.Fields("a b c d e") })
	wantNotShaped(t, api.ErrLimit, func(f *api.Func) { f.Body = many(api.MaxStmts, deep(1)) })
	wantNotShaped(t, api.ErrLimit, func(f *api.Func) { f.Body = many(100000, deep(1)) })
	for _, depth := range []int{api.MaxNest + 1, 100, 1 << 16} {
		wantNotShaped(t, api.ErrLimit, func(f *api.Func) { f.Body = []api.Stmt{deep(depth)} })
	}
	wantCheck(t, withWrong(t, 0, func(f *api.Func) { f.Body = []api.Stmt{deep(api.MaxNest)} }), 0, api.OK)
	wantCheck(t, api.Program{Funcs: []api.Func{{Name: "f", Body: many(api.MaxStmts, deep(1))}}}, 0, api.OK)
	wantCheck(t, api.Program{Funcs: []api.Func{{Name: "f", Body: many(api.MaxStmts+1, deep(1))}}}, 0, api.ErrLimit)
}

// TestShapedFirst checks that a program that is not shaped has no other error, wherever that would be.
func TestShapedFirst(t *testing.T) {
	wrong := map[api.Errno]func(f *api.Func){
		api.ErrInvalid: func(f *api.Func) { f.Body = append(f.Body, api.Stmt{}) },
		api.ErrLimit:   func(f *api.Func) { f.Body = append(f.Body, deep(api.MaxNest+1)) },
	}
	for _, fault := range faults() {
		for i := range 4 {
			for want, spoil := range wrong {
				for j := range 4 {
					if drafts, ok := faulty(fault, i); ok {
						p := program(t, written(drafts...))
						wantCheck(t, p, i, fault.code)
						spoil(&p.Funcs[j])
						wantCheck(t, p, 0, want)
					}
				}
			}
		}
	}
	// ErrInvalid comes before ErrLimit as source.Shaped says.
	p := withWrong(t, 0, wrong[api.ErrLimit])
	wrong[api.ErrInvalid](&p.Funcs[3])
	wantCheck(t, p, 0, api.ErrInvalid)
}
