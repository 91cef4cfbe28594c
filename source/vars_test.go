package source_test

import (
	"fmt"
	"math/rand"
	"slices"
	"strings"
	"testing"

	"speculate/api"
	"speculate/source"
)

// plainVars reads P5.2: all names in their order, and of these the first ones.
func plainVars(f api.Func) []string {
	return firsts(append(slices.Clone(f.Params), namesOf(f.Body)...))
}

func namesOf(l []api.Stmt) []string {
	var found []string
	for _, s := range l {
		switch s.Kind {
		case api.SAssign, api.SCall, api.SFor, api.STry, api.SAsk, api.SReduce:
			found = append(found, s.Name)
		}
		found = append(found, namesOf(s.Body)...)
		found = append(found, namesOf(s.Else)...)
	}
	return found
}

func firsts(l []string) []string {
	var found []string
	for i, s := range l {
		if !slices.Contains(l[:i], s) {
			found = append(found, s)
		}
	}
	return found
}

// wantVars takes the variables as words.
func wantVars(t *testing.T, f api.Func, want string) {
	t.Helper()
	wantVarList(t, f, strings.Fields(want))
}

func wantVarList(t *testing.T, f api.Func, want []string) {
	t.Helper()
	if l := source.Vars(f); !slices.Equal(l, want) {
		t.Fatalf("Vars(%s) = %s, want %s", brief(f), brief(l), brief(want))
	}
}

func withParams(params string, body ...api.Stmt) api.Func {
	return api.Func{Name: "f", Params: strings.Fields(params), Body: body}
}

// named is a statement with nothing but a kind, a name and others within it.
func named(kind int, name string, body, other []api.Stmt) api.Stmt {
	return api.Stmt{Kind: kind, Name: name, Body: body, Else: other}
}

func TestVarsOfNothing(t *testing.T) {
	wantVars(t, api.Func{}, "")
	wantVars(t, function("f"), "")
	wantVars(t, api.Func{Params: []string{}, Body: stmts()}, "")
	wantVars(t, withParams("", while(), api.Stmt{Kind: api.SReturn, Exprs: exprs(variable("a"))}), "")
}

func TestVarsExample(t *testing.T) {
	wantVars(t, withParams("a", assign("b", variable("a"))), "a b")
}

func TestVarsOfParams(t *testing.T) {
	wantVars(t, withParams("a"), "a")
	wantVars(t, withParams("d c b a"), "d c b a")
	wantVars(t, withParams("b a b b a c"), "b a c")
	wantVars(t, withParams("a b c d e g h i j"), "a b c d e g h i j")
	wantVars(t, withParams("b a", assign("a", number(1)), assign("c", number(1)), assign("b", number(1))), "b a c")
}

func TestVarsOfEachKind(t *testing.T) {
	wanted := map[int]bool{api.SAssign: true, api.SCall: true, api.SFor: true, api.STry: true, api.SAsk: true, api.SReduce: true}
	kinds := []int{least, most, 256, 257, 1<<32 + 1, -1 << 40}
	for kind := -20; kind < 40; kind++ {
		kinds = append(kinds, kind)
	}
	for _, kind := range kinds {
		want := "p b o z"
		if wanted[kind] {
			want = "p v b o z"
		}
		s := named(kind, "v", stmts(assign("b", null())), stmts(assign("o", null())))
		wantVars(t, withParams("p", s, assign("z", null())), want)
		wantVars(t, withParams("p", while(s), assign("z", null())), want)
		wantVars(t, withParams("p v b o z", s), "p v b o z")
	}
}

// TestVarsOfRightStmts takes one right statement of each kind, whose names are a and those of its parts.
func TestVarsOfRightStmts(t *testing.T) {
	for kind, s := range rightStmts() {
		s.Name = strings.ReplaceAll(s.Name, "a", "v")
		want := map[string]string{"assign": "v", "call": "v", "if": "a", "for": "v a", "while": "a", "try": "v a", "ask": "v", "reduce": "v"}[kind]
		wantVars(t, withParams("", s), want)
		wantVars(t, withParams("q", s, s), "q "+want)
	}
}

// TestVarsAreNoOtherNames checks that names of functions and names that are read are no variables.
func TestVarsAreNoOtherNames(t *testing.T) {
	wantVars(t, withParams("", call("a", "g", variable("x"), binary(api.OpAdd, variable("y"), variable("z")))), "a")
	wantVars(t, withParams("", assign("a", variable("b")), assign("b", variable("c"))), "a b")
	wantVars(t, withParams("", api.Stmt{Kind: api.SEmit, Name: "n", Func: "g", Exprs: exprs(variable("x"))}), "")
	wantVars(t, api.Func{Name: "f", Body: stmts(assign("a", null()))}, "a")
}

func TestVarsOrder(t *testing.T) {
	one := func(name string) []api.Stmt { return stmts(assign(name, null())) }
	wantVars(t, withParams("", named(api.STry, "c", one("b"), one("a"))), "c b a")
	wantVars(t, withParams("", named(api.SIf, "", one("b"), one("a")), assign("c", null())), "b a c")
	wantVars(t, withParams("", named(api.SIf, "", nil, one("a")), named(api.SIf, "", one("b"), nil)), "a b")
	wantVars(t, withParams("z", named(api.SFor, "y", stmts(named(api.STry, "x", one("w"), one("v")), assign("u", null())), nil), assign("t", null())), "z y x w v u t")
	// What is in Else stands behind everything in Body, however deep.
	deep := stmts(while(while(named(api.SIf, "", one("d"), one("c")))), assign("b", null()))
	wantVars(t, withParams("", named(api.STry, "e", deep, one("a"))), "e d c b a")
	wantVars(t, withParams("", named(api.STry, "e", one("a"), deep)), "e a d c b")
}

func TestVarsEachOnce(t *testing.T) {
	one := func(name string) []api.Stmt { return stmts(assign(name, null())) }
	wantVars(t, withParams("", assign("a", null()), assign("b", null()), assign("a", null()), assign("b", null())), "a b")
	wantVars(t, withParams("", named(api.STry, "a", one("a"), one("a"))), "a")
	wantVars(t, withParams("", named(api.SIf, "", one("b"), one("a")), named(api.SIf, "", one("a"), one("b"))), "b a")
	wantVars(t, withParams("b", named(api.SFor, "a", stmts(named(api.SFor, "b", one("c"), nil), assign("a", null())), nil), assign("c", null())), "b a c")
	wantVars(t, withParams("a a", named(api.SAsk, "a", nil, nil), named(api.SReduce, "a", nil, nil), call("a", "a")), "a")
}

// TestVarsOfAnyNames checks that names need not be names.
func TestVarsOfAnyNames(t *testing.T) {
	odd := []string{"", "A", "end", "a b", "\xff\x00", strings.Repeat("long", 1000), " ", "a", "a\x00"}
	f := api.Func{Params: slices.Concat(odd, odd)}
	wantVarList(t, f, odd)
	f = api.Func{}
	for range 2 {
		for _, name := range odd {
			f.Body = append(f.Body, named(api.SAssign, name, nil, nil))
		}
	}
	wantVarList(t, f, odd)
	wantVarList(t, withParams("p", api.Stmt{Kind: api.SAssign}), []string{"p", ""})
	wantVarList(t, withParams("p", api.Stmt{}), []string{"p"})
}

// TestVarsNotShaped has statements that lack parts or have too many, and others in all that may and may not have some.
func TestVarsNotShaped(t *testing.T) {
	for kind := -1; kind <= 14; kind++ {
		s := named(kind, "v", stmts(named(kind, "w", nil, stmts(named(kind, "x", nil, nil)))), stmts(named(kind, "y", nil, nil)))
		s.Exprs = slices.Repeat(exprs(api.Expr{Kind: api.EVar, Name: "read", N: 99}), 40)
		s.N, s.Op, s.Func = -9, 99, "g"
		f := withParams("", s)
		wantVarList(t, f, plainVars(f))
	}
}

func TestVarsBeyondTheLimits(t *testing.T) {
	const many = 100000
	f, want := api.Func{}, []string{}
	for i := range many {
		name := fmt.Sprint("v", i)
		want = append(want, name)
		if i < many/2 {
			f.Params = append(f.Params, name)
		} else {
			f.Body = append(f.Body, named(api.SAsk, name, nil, nil))
		}
	}
	f.Params = append(f.Params, f.Params...)
	f.Body = append(f.Body, f.Body...)
	wantVarList(t, f, want)
}

func TestVarsDeep(t *testing.T) {
	const deep = 1 << 16
	var want []string
	s := assign("inmost", null())
	for i := range deep - 1 {
		name := fmt.Sprint("v", i)
		s = named(api.STry, name, stmts(s), nil)
		if i%2 > 0 {
			s.Body, s.Else = nil, s.Body
		}
		want = append(want, name)
	}
	slices.Reverse(want)
	wantVarList(t, function("f", s), append(want, "inmost"))
}

func TestVarsOfSomePrograms(t *testing.T) {
	somePrograms(func(p api.Program) {
		for _, f := range p.Funcs {
			wantVarList(t, f, plainVars(f))
		}
	})
}

// TestVarsOfWildStmts has any kinds with any names, bodies and Else.
func TestVarsOfWildStmts(t *testing.T) {
	r := rand.New(rand.NewSource(5))
	var wild func(depth int) []api.Stmt
	wild = func(depth int) []api.Stmt {
		var l []api.Stmt
		for range r.Intn(4) {
			s := api.Stmt{Kind: r.Intn(16) - 1, Name: string(rune('a' + r.Intn(9)))}
			if depth > 0 {
				s.Body, s.Else = wild(depth-1), wild(depth-1)
			}
			l = append(l, s)
		}
		return l
	}
	for range 3000 {
		f := withParams(strings.Repeat("b ", r.Intn(3))+strings.Repeat("h e ", r.Intn(2)), wild(3)...)
		wantVarList(t, f, plainVars(f))
	}
}
