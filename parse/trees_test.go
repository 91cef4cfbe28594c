package parse_test

import (
	"fmt"
	"math"
	"math/rand"
	"strings"
	"testing"

	"speculate/api"
	"speculate/parse"
	"speculate/source"
)

const (
	least = math.MinInt64
	most  = math.MaxInt64
)

func number(n int64) api.Expr       { return api.Expr{Kind: api.ENum, N: n} }
func variable(name string) api.Expr { return api.Expr{Kind: api.EVar, Name: name} }
func created(n int64) api.Expr      { return api.Expr{Kind: api.ENew, N: n} }
func null() api.Expr                { return api.Expr{Kind: api.ENil} }

func field(n int64, of api.Expr) api.Expr {
	return api.Expr{Kind: api.EField, N: n, L: []api.Expr{of}}
}

func binary(op int, a, b api.Expr) api.Expr {
	return api.Expr{Kind: api.EBin, Op: op, L: []api.Expr{a, b}}
}

// chain is an expression of so many nodes, one within the other.
func chain(nodes int, inmost api.Expr) api.Expr {
	e := inmost
	for range nodes - 1 {
		e = field(1, e)
	}
	return e
}

// operators are the names of all operators in the order of their numbers, which begin with 1.
func operators() []string { return strings.Fields("add sub mul div min max and or xor less equal") }

func assign(name string, e api.Expr) api.Stmt {
	return api.Stmt{Kind: api.SAssign, Name: name, Exprs: []api.Expr{e}}
}

func function(name string, body ...api.Stmt) api.Func { return api.Func{Name: name, Body: body} }

func program(body ...api.Stmt) api.Program { return of(function("main", body...)) }

func of(l ...api.Func) api.Program { return api.Program{Funcs: l} }

// text is lines, each with a line feed.
func text(lines ...string) string {
	s := ""
	for _, line := range lines {
		s += line + "\n"
	}
	return s
}

// inMain is the text of a function main with these lines, the first of which is the second line of the text.
func inMain(lines ...string) string {
	return text("func main", strings.Join(append(lines, "end"), "\n"))
}

// brief shows the beginning of a tree or a text, most of which are too large to be shown whole.
func brief(x any) string {
	s := fmt.Sprintf("%+v", x)
	return s[:min(len(s), 400)]
}

// wantProgram checks that Parse returns a program for a text.
func wantProgram(t *testing.T, s string, want api.Program) {
	t.Helper()
	p, line, e := parse.Parse(s)
	if e != api.OK || line != 0 || !source.Same(p, want) {
		t.Fatalf("Parse(%q) = %s, %d, %d; want %s", brief(s), brief(p), line, e, brief(want))
	}
}

func wantError(t *testing.T, s string, line int, want api.Errno) {
	t.Helper()
	p, at, e := parse.Parse(s)
	if e != want || at != line || len(p.Funcs) != 0 {
		t.Fatalf("Parse(%q) = %s, %d, %d; want the error %d in line %d", brief(s), brief(p), at, e, want, line)
	}
}

func wantText(t *testing.T, p api.Program, want string) {
	t.Helper()
	if s, e := parse.Format(p); e != api.OK || s != want {
		t.Fatalf("Format(%s) = %q, %d; want %q", brief(p), brief(s), e, brief(want))
	}
}

// wantBoth checks that a program is written as a text and that the text is read as the program.
func wantBoth(t *testing.T, p api.Program, s string) {
	t.Helper()
	wantText(t, p, s)
	wantProgram(t, s, p)
}

// somePrograms goes through programs without anything wrong in them.
func somePrograms(visit func(p api.Program)) {
	for seed := range int64(2000) {
		visit(randomProgram(rand.New(rand.NewSource(seed))))
	}
}

func randomProgram(r *rand.Rand) api.Program {
	m := maker{r, 1 + r.Intn(api.MaxStmts)}
	p := api.Program{}
	for range 1 + r.Intn([]int{1, 4, api.MaxFuncs}[r.Intn(3)]) {
		f := function(m.name(), m.stmts(api.MaxNest)...)
		for range r.Intn(api.MaxParams + 1) {
			f.Params = append(f.Params, m.name())
		}
		p.Funcs = append(p.Funcs, f)
	}
	return p
}

// maker makes trees with no more statements than are left.
type maker struct {
	*rand.Rand
	left int
}

func (m *maker) name() string {
	return []string{"a", "b", "c", "d1", "adds", "abcdefghijklmnop", "ends", "nil1", "z0123456789"}[m.Intn(9)]
}

func (m *maker) number() int64 {
	return []int64{0, 1, -1, least, most, m.Int63n(100), -m.Int63n(100), m.Int63() - m.Int63()}[m.Intn(8)]
}

func (m *maker) expr(size int) api.Expr {
	switch {
	case size > 2 && m.Intn(3) > 0:
		left := 1 + m.Intn(size-2)
		return binary(1+m.Intn(11), m.expr(left), m.expr(size-1-left))
	case size > 1 && m.Intn(2) > 0:
		return field(m.Int63n(api.MaxFields), m.expr(size-1))
	}
	return []api.Expr{number(m.number()), null(), variable(m.name()), created(m.Int63n(api.MaxFields + 1))}[m.Intn(4)]
}

func (m *maker) exprs(wanted int) []api.Expr {
	var l []api.Expr
	for range wanted {
		l = append(l, m.expr(1+m.Intn(api.MaxNodes)))
	}
	return l
}

func (m *maker) stmts(depth int) []api.Stmt {
	var l []api.Stmt
	for range m.Intn(6) {
		if depth > 0 && m.left > 0 {
			m.left--
			l = append(l, m.stmt(depth))
		}
	}
	return l
}

func (m *maker) stmt(depth int) api.Stmt {
	s := api.Stmt{Kind: 1 + m.Intn(12)}
	switch s.Kind {
	case api.SAssign, api.SAsk:
		s.Name, s.Exprs = m.name(), m.exprs(1)
	case api.SStore:
		s.N, s.Exprs = m.Int63n(api.MaxFields), m.exprs(2)
	case api.SCall:
		s.Name, s.Func, s.Exprs = m.name(), m.name(), m.exprs(m.Intn(api.MaxParams+1))
	case api.SIf:
		s.Exprs, s.Body, s.Else = m.exprs(1), m.stmts(depth-1), m.stmts(depth-1)
	case api.SFor:
		s.Name, s.Exprs, s.Body = m.name(), m.exprs(2), m.stmts(depth-1)
	case api.SWhile:
		s.Exprs, s.Body = m.exprs(1), m.stmts(depth-1)
	case api.SReturn, api.SThrow, api.SEmit:
		s.Exprs = m.exprs(1)
	case api.STry:
		s.Name, s.Body, s.Else = m.name(), m.stmts(depth-1), m.stmts(depth-1)
	case api.SReduce:
		s.Name, s.Op, s.Exprs = m.name(), 1+m.Intn(11), m.exprs(1)
	}
	return s
}

// TestSomePrograms checks that the programs are shaped and as different as they are meant to be.
func TestSomePrograms(t *testing.T) {
	large, deep, kinds := 0, 0, map[int]int{}
	var look func(l []api.Stmt, depth int) int
	look = func(l []api.Stmt, depth int) int {
		n := len(l)
		for _, s := range l {
			kinds[s.Kind]++
			if depth == api.MaxNest {
				deep++
			}
			n += look(s.Body, depth+1) + look(s.Else, depth+1)
		}
		return n
	}
	somePrograms(func(p api.Program) {
		if e := source.Shaped(p); e != api.OK {
			t.Fatalf("%s is not shaped: %d", brief(p), e)
		}
		all := 0
		for _, f := range p.Funcs {
			all += look(f.Body, 1)
		}
		if all > 30 {
			large++
		}
	})
	if large < 300 || deep < 500 || len(kinds) != 12 || kinds[api.STry] < 1000 {
		t.Errorf("%d large programs, %d deep statements, kinds %v", large, deep, kinds)
	}
}
