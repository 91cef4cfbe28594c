package source_test

import (
	"fmt"
	"math"
	"math/rand"
	"slices"
	"testing"

	"speculate/api"
	"speculate/source"
)

const (
	least = math.MinInt64
	most  = math.MaxInt64
)

func number(n int64) api.Expr       { return api.Expr{Kind: api.ENum, N: n} }
func variable(name string) api.Expr { return api.Expr{Kind: api.EVar, Name: name} }
func created(n int64) api.Expr      { return api.Expr{Kind: api.ENew, N: n} }
func null() api.Expr                { return api.Expr{Kind: api.ENil} }

func field(n int64, of api.Expr) api.Expr {
	return api.Expr{Kind: api.EField, N: n, L: []api.Expr{of}}
}

func binary(op int, a, b api.Expr) api.Expr {
	return api.Expr{Kind: api.EBin, Op: op, L: []api.Expr{a, b}}
}

// chain is an expression of so many nodes, one within the other.
func chain(nodes int, inmost api.Expr) api.Expr {
	e := inmost
	for range nodes - 1 {
		e = field(1, e)
	}
	return e
}

// tree is an expression of so many nodes that is as flat as it can be.
func tree(nodes int) api.Expr {
	if nodes == 1 {
		return variable("a")
	}
	if nodes == 2 {
		return field(0, variable("a"))
	}
	left := (nodes - 1) / 2
	return binary(api.OpAdd, tree(left), tree(nodes-1-left))
}

func exprs(l ...api.Expr) []api.Expr { return l }
func stmts(l ...api.Stmt) []api.Stmt { return l }

func assign(name string, e api.Expr) api.Stmt {
	return api.Stmt{Kind: api.SAssign, Name: name, Exprs: exprs(e)}
}

// plain is a statement without others.
func plain() api.Stmt { return assign("a", number(1)) }

func call(name, function string, l ...api.Expr) api.Stmt {
	return api.Stmt{Kind: api.SCall, Name: name, Func: function, Exprs: l}
}

// nests are the ways in which a statement may have others within it.
func nests() map[string]func(l ...api.Stmt) api.Stmt {
	return map[string]func(l ...api.Stmt) api.Stmt{
		"if":   func(l ...api.Stmt) api.Stmt { return api.Stmt{Kind: api.SIf, Exprs: exprs(number(1)), Body: l} },
		"else": func(l ...api.Stmt) api.Stmt { return api.Stmt{Kind: api.SIf, Exprs: exprs(number(1)), Else: l} },
		"for": func(l ...api.Stmt) api.Stmt {
			return api.Stmt{Kind: api.SFor, Name: "i", Exprs: exprs(number(1), number(2)), Body: l}
		},
		"while": while,
		"try":   func(l ...api.Stmt) api.Stmt { return api.Stmt{Kind: api.STry, Name: "e", Body: l} },
		"catch": func(l ...api.Stmt) api.Stmt { return api.Stmt{Kind: api.STry, Name: "e", Else: l} },
	}
}

func while(l ...api.Stmt) api.Stmt {
	return api.Stmt{Kind: api.SWhile, Exprs: exprs(number(1)), Body: l}
}

// nested is statements that are so deep, with the last one inmost.
func nested(depth int, nest func(l ...api.Stmt) api.Stmt, inmost api.Stmt) api.Stmt {
	s := inmost
	for range depth - 1 {
		s = nest(s)
	}
	return s
}

func function(name string, body ...api.Stmt) api.Func { return api.Func{Name: name, Body: body} }

func program(body ...api.Stmt) api.Program { return of(function("main", body...)) }

func of(l ...api.Func) api.Program { return api.Program{Funcs: l} }

// brief shows the beginning of a tree, most of which are too large to be shown whole.
func brief(tree any) string {
	s := fmt.Sprintf("%+v", tree)
	return s[:min(len(s), 300)]
}

func wantShaped(t *testing.T, p api.Program, want api.Errno) {
	t.Helper()
	if e := source.Shaped(p); e != want {
		t.Fatalf("Shaped(%s) = %d, want %d", brief(p), e, want)
	}
}

// wantEverywhere checks what Shaped says of programs that have a tree in one place each, and that nothing else is wrong in them.
func wantEverywhere[T any](t *testing.T, programs map[string]func(tree T) api.Program, right, tree T, want api.Errno) {
	t.Helper()
	for name, with := range programs {
		if e := source.Shaped(with(right)); e != api.OK {
			t.Fatalf("%s: the program is wrong without the tree: %d", name, e)
		}
		if e := source.Shaped(with(tree)); e != want {
			t.Fatalf("%s: with %s Shaped is %d, want %d", name, brief(tree), e, want)
		}
	}
}

// plainProgram reads P5.1.
func plainProgram(p api.Program) api.Errno {
	all, deepest := 0, 0
	limited := len(p.Funcs) < 1 || len(p.Funcs) > 16
	for _, f := range p.Funcs {
		if !slices.ContainsFunc(f.Params, func(s string) bool { return !plainName(s) }) && plainName(f.Name) && plainStmts(f.Body) {
			all += count(f.Body)
			deepest = max(deepest, depth(f.Body))
			limited = limited || len(f.Params) > 4
			continue
		}
		return api.ErrInvalid
	}
	if limited || all > 64 || deepest > 6 {
		return api.ErrLimit
	}
	return api.OK
}

func count(l []api.Stmt) int {
	n := len(l)
	for _, s := range l {
		n += count(s.Body) + count(s.Else)
	}
	return n
}

func depth(l []api.Stmt) int {
	n := 0
	for _, s := range l {
		n = max(n, 1+depth(s.Body), 1+depth(s.Else))
	}
	return n
}

func plainStmts(l []api.Stmt) bool {
	for _, s := range l {
		if !plainStmt(s) || !plainStmts(s.Body) || !plainStmts(s.Else) {
			return false
		}
	}
	return true
}

// plainStmt reads the definition of a statement kind by kind: without the parts of its kind it is zero.
func plainStmt(s api.Stmt) bool {
	ok, rest := true, s
	wanted := -1
	switch s.Kind {
	case api.SAssign, api.SAsk:
		ok, wanted = plainName(s.Name), 1
		rest.Name = ""
	case api.SStore:
		ok, wanted = s.N >= 0 && s.N < 16, 2
		rest.N = 0
	case api.SCall:
		ok, wanted = plainName(s.Name) && plainName(s.Func) && len(s.Exprs) < 5, len(s.Exprs)
		rest.Name, rest.Func = "", ""
	case api.SIf:
		wanted = 1
		rest.Body, rest.Else = nil, nil
	case api.SFor:
		ok, wanted = plainName(s.Name), 2
		rest.Name, rest.Body = "", nil
	case api.SWhile:
		wanted = 1
		rest.Body = nil
	case api.SReturn, api.SThrow, api.SEmit:
		wanted = 1
	case api.STry:
		ok, wanted = plainName(s.Name), 0
		rest.Name, rest.Body, rest.Else = "", nil, nil
	case api.SReduce:
		ok, wanted = plainName(s.Name) && s.Op >= 1 && s.Op <= 11, 1
		rest.Name, rest.Op = "", 0
	}
	for _, e := range s.Exprs {
		ok = ok && plainExpr(e) && nodes(e) <= 16
	}
	return ok && len(s.Exprs) == wanted && rest.Name == "" && rest.Func == "" && rest.N == 0 && rest.Op == 0 && len(rest.Body) == 0 && len(rest.Else) == 0
}

// plainExpr reads the definition of an expression likewise, but for its size.
func plainExpr(e api.Expr) bool {
	ok, rest := false, e
	wanted := 0
	switch e.Kind {
	case api.ENum:
		ok, rest.N = true, 0
	case api.ENil:
		ok = true
	case api.EVar:
		ok, rest.Name = plainName(e.Name), ""
	case api.EField:
		ok, wanted, rest.N = e.N >= 0 && e.N < 16, 1, 0
	case api.EBin:
		ok, wanted, rest.Op = e.Op >= 1 && e.Op <= 11, 2, 0
	case api.ENew:
		ok, rest.N = e.N >= 0 && e.N <= 16, 0
	}
	for _, part := range e.L {
		ok = ok && plainExpr(part)
	}
	return ok && len(e.L) == wanted && rest.N == 0 && rest.Name == "" && rest.Op == 0
}

func nodes(e api.Expr) int {
	n := 1
	for _, part := range e.L {
		n += nodes(part)
	}
	return n
}

// somePrograms goes through programs that are right but for what happens to be wrong in about half of them.
func somePrograms(visit func(p api.Program)) {
	for seed := range int64(5000) {
		visit(randomProgram(rand.New(rand.NewSource(seed))))
	}
}

func randomProgram(r *rand.Rand) api.Program {
	m := maker{r, r.Intn(2) == 0}
	p := api.Program{}
	for range r.Intn(4) + m.beyond(16) {
		f := function(m.name(), m.stmts(6+m.beyond(2))...)
		for range r.Intn(5) + m.beyond(2) {
			f.Params = append(f.Params, m.name())
		}
		p.Funcs = append(p.Funcs, f)
	}
	return p
}

// maker makes trees, and something not valid in them now and then if wild.
type maker struct {
	*rand.Rand
	wild bool
}

func (m maker) strikes() bool { return m.wild && m.Intn(150) == 0 }

func (m maker) seldom(n int) int {
	if m.strikes() {
		return 1 + m.Intn(n)
	}
	return 0
}

// beyond is mostly 0, so that most programs are within the limits.
func (m maker) beyond(n int) int {
	if m.Intn(20) == 0 {
		return 1 + m.Intn(n)
	}
	return 0
}

func (m maker) name() string {
	if m.strikes() {
		return []string{"", "A", "1a", "end", "add", "a b", "abcdefghijklmnopq"}[m.Intn(7)]
	}
	return []string{"a", "b", "c", "d1", "adds", "abcdefghijklmnop"}[m.Intn(6)]
}

func (m maker) op() int { return 1 + m.Intn(11) + 11*m.seldom(1) }

func (m maker) number(below int64) int64 {
	if m.strikes() {
		return []int64{-1, below, least, most}[m.Intn(4)]
	}
	return m.Int63n(below)
}

func (m maker) expr(size int) api.Expr {
	e := m.plainExpr(size)
	if m.strikes() {
		switch m.Intn(5) {
		case 0:
			e.Kind = m.Intn(9)
		case 1:
			e.N += m.Int63n(3)
		case 2:
			e.Name += "a"
		case 3:
			e.Op++
		case 4:
			e.L = append(e.L, number(1))
		}
	}
	return e
}

func (m maker) plainExpr(size int) api.Expr {
	switch {
	case size > 2 && m.Intn(3) > 0:
		left := 1 + m.Intn(size-2)
		return binary(m.op(), m.expr(left), m.expr(size-1-left))
	case size > 1 && m.Intn(2) > 0:
		return field(m.number(16), m.expr(size-1))
	}
	return []api.Expr{number(m.Int63() - m.Int63()), null(), variable(m.name()), created(m.number(17))}[m.Intn(4)]
}

func (m maker) exprs(wanted int) []api.Expr {
	var l []api.Expr
	for range wanted + m.seldom(1) {
		l = append(l, m.expr(1+m.Intn(16)+m.seldom(4)))
	}
	return l
}

func (m maker) stmts(depth int) []api.Stmt {
	var l []api.Stmt
	if depth > 0 {
		for range m.Intn(4) {
			l = append(l, m.stmt(depth))
		}
	}
	return l
}

func (m maker) stmt(depth int) api.Stmt {
	s := m.plainStmt(depth)
	if m.strikes() {
		switch m.Intn(7) {
		case 0:
			s.Kind = m.Intn(15)
		case 1:
			s.Name += "a"
		case 2:
			s.Func += "a"
		case 3:
			s.N++
		case 4:
			s.Op++
		case 5:
			s.Body = append(s.Body, plain())
		case 6:
			s.Else = append(s.Else, plain())
		}
	}
	return s
}

func (m maker) plainStmt(depth int) api.Stmt {
	kind := []int{api.SAssign, api.SStore, api.SCall, api.SIf, api.SFor, api.SWhile, api.SReturn, api.SThrow, api.STry, api.SEmit, api.SAsk, api.SReduce}[m.Intn(12)]
	s := api.Stmt{Kind: kind}
	switch kind {
	case api.SAssign, api.SAsk:
		s.Name, s.Exprs = m.name(), m.exprs(1)
	case api.SStore:
		s.N, s.Exprs = m.number(16), m.exprs(2)
	case api.SCall:
		s.Name, s.Func, s.Exprs = m.name(), m.name(), m.exprs(m.Intn(5))
	case api.SIf:
		s.Exprs, s.Body, s.Else = m.exprs(1), m.stmts(depth-1), m.stmts(depth-1)
	case api.SFor:
		s.Name, s.Exprs, s.Body = m.name(), m.exprs(2), m.stmts(depth-1)
	case api.SWhile:
		s.Exprs, s.Body = m.exprs(1), m.stmts(depth-1)
	case api.SReturn, api.SThrow, api.SEmit:
		s.Exprs = m.exprs(1)
	case api.STry:
		s.Name, s.Body, s.Else = m.name(), m.stmts(depth-1), m.stmts(depth-1)
	case api.SReduce:
		s.Name, s.Op, s.Exprs = m.name(), m.op(), m.exprs(1)
	}
	return s
}

// TestSomePrograms checks that the programs are as different as they are meant to be.
func TestSomePrograms(t *testing.T) {
	errors := map[api.Errno]int{}
	large, deep := 0, 0
	somePrograms(func(p api.Program) {
		errors[plainProgram(p)]++
		for _, f := range p.Funcs {
			if count(f.Body) > 30 {
				large++
			}
			if depth(f.Body) > 4 {
				deep++
			}
		}
	})
	if errors[api.OK] < 1500 || errors[api.ErrInvalid] < 500 || errors[api.ErrLimit] < 500 || large < 100 || deep < 500 {
		t.Errorf("errors %v, %d large functions, %d deep ones", errors, large, deep)
	}
}

func TestShapedOfSomePrograms(t *testing.T) {
	somePrograms(func(p api.Program) { wantShaped(t, p, plainProgram(p)) })
}
