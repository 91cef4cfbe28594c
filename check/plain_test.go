package check_test

import (
	"fmt"
	"math/rand"
	"reflect"
	"slices"
	"strings"
	"testing"

	"speculate/api"
	"speculate/source"
)

// plainCheck reads P7.2: it finds all errors of each function, in order.
func plainCheck(p api.Program) (int, api.Errno) {
	if e := source.Shaped(p); e != api.OK {
		return 0, e
	}
	for i := range p.Funcs {
		if found := errorsOf(p, i); len(found) > 0 {
			return i, found[0]
		}
	}
	return 0, api.OK
}

func errorsOf(p api.Program, at int) []api.Errno {
	f := p.Funcs[at]
	var found []api.Errno
	for _, earlier := range p.Funcs[:at] {
		if earlier.Name == f.Name {
			found = append(found, api.ErrExists)
		}
	}
	vars := map[string]bool{}
	for _, name := range f.Params {
		if vars[name] {
			found = append(found, api.ErrExists)
		}
		vars[name] = true
	}
	if at == 0 && len(f.Params) > 0 {
		found = append(found, api.ErrArity)
	}
	all := flat(f.Body)
	for _, s := range all {
		switch s.Kind {
		case api.SAssign, api.SCall, api.SFor, api.STry, api.SAsk, api.SReduce:
			vars[s.Name] = true
		}
	}
	if len(vars) > 16 {
		found = append(found, api.ErrLimit)
	}
	for _, s := range all {
		found = append(found, stmtErrors(p, vars, s)...)
	}
	return found
}

func flat(l []api.Stmt) []api.Stmt {
	var all []api.Stmt
	for _, s := range l {
		all = append(append(append(all, s), flat(s.Body)...), flat(s.Else)...)
	}
	return all
}

func stmtErrors(p api.Program, vars map[string]bool, s api.Stmt) []api.Errno {
	var found []api.Errno
	var walk func(l []api.Expr)
	walk = func(l []api.Expr) {
		for _, e := range l {
			if e.Kind == api.EVar && !vars[e.Name] {
				found = append(found, api.ErrUndefined)
			}
			walk(e.L)
		}
	}
	walk(s.Exprs)
	if s.Kind == api.SCall {
		at := slices.IndexFunc(p.Funcs, func(f api.Func) bool { return f.Name == s.Func })
		if at < 0 {
			found = append(found, api.ErrUndefined)
		} else if len(p.Funcs[at].Params) != len(s.Exprs) {
			found = append(found, api.ErrArity)
		}
	}
	if s.Kind == api.SReduce && slices.Contains([]int{api.OpSub, api.OpDiv, api.OpLess, api.OpEqual}, s.Op) {
		found = append(found, api.ErrMismatch)
	}
	return found
}

// wantPlain checks that Check returns what the plain reading does, and says what that is.
func wantPlain(t *testing.T, p api.Program) (int, api.Errno) {
	t.Helper()
	at, e := plainCheck(p)
	wantCheck(t, p, at, e)
	return at, e
}

// maker makes the texts of programs, with something wrong in them now and then.
type maker struct {
	*rand.Rand
	rate  int // of so many choices one is wrong
	left  int // statements
	vars  []string
	funcs []draft
}

func (m *maker) strikes() bool { return m.rate > 0 && m.Intn(m.rate) == 0 }

func (m *maker) one(l ...string) string { return l[m.Intn(len(l))] }

// somePrograms goes through programs of which about half are right.
func somePrograms(t *testing.T, visit func(p api.Program)) {
	t.Helper()
	for seed := range int64(3000) {
		r := rand.New(rand.NewSource(seed))
		visit(program(t, randomText(r)))
	}
}

func randomText(r *rand.Rand) string {
	m := maker{Rand: r, rate: []int{0, 20, 100, 300}[r.Intn(4)], left: api.MaxStmts}
	pool := strings.Fields("a b c d e g h")
	for i := range 1 + r.Intn(6) {
		d := draft{name: fmt.Sprint("f", i)}
		if m.strikes() {
			d.name = fmt.Sprint("f", r.Intn(i+1))
		}
		if i > 0 || m.strikes() {
			d.params = append(d.params, slices.Repeat(pool, 1+r.Intn(2))[:r.Intn(5)]...)
		}
		if len(d.params) > 1 && m.strikes() {
			d.params[r.Intn(len(d.params))] = d.params[r.Intn(len(d.params))]
		}
		m.funcs = append(m.funcs, d)
	}
	for i := range m.funcs {
		d := &m.funcs[i]
		m.vars = append([]string{"v"}, d.params...)
		d.lines = m.stmts(1 + r.Intn(api.MaxNest))
		// What is read is written before or behind that.
		d.lines = slices.Insert(d.lines, r.Intn(2)*len(d.lines), "set v 1")
		if m.strikes() {
			n := min(max(m.left-len(m.funcs), 0), 14+r.Intn(4))
			d.lines = append(d.lines, writing("set V 1", 0, n)...)
			m.left -= n
		}
	}
	return written(m.funcs...)
}

func (m *maker) expr(size int) string {
	switch {
	case size > 2 && m.Intn(3) > 0:
		left := 1 + m.Intn(size-2)
		return m.one(operators()...) + " " + m.expr(left) + " " + m.expr(size-1-left)
	case size > 1 && m.Intn(2) > 0:
		return fmt.Sprint("field ", m.Intn(16), " ", m.expr(size-1))
	case m.strikes():
		return m.one("unknown", "f0", "w", "a", "h")
	}
	return m.one("1", "-7", "nil", "new 3", m.one(m.vars...), m.one(m.vars...))
}

func (m *maker) line() string {
	name, e := m.one("v", "w", m.one(m.vars...)), m.expr(1+m.Intn(8))
	switch m.Intn(8) {
	case 0:
		return fmt.Sprint("store ", m.Intn(16), " ", e, " ", m.expr(3))
	case 1, 2:
		return m.call(name)
	case 3:
		op := m.one("add", "mul", "min", "max", "and", "or", "xor")
		if m.strikes() {
			op = m.one("sub", "div", "less", "equal")
		}
		return "reduce " + name + " " + op + " " + e
	case 4:
		return "ask " + name + " " + e
	case 5:
		return m.one("emit ", "return ", "throw ") + e
	}
	return "set " + name + " " + e
}

func (m *maker) call(name string) string {
	d := m.funcs[m.Intn(len(m.funcs))]
	n := len(d.params)
	if m.strikes() {
		n = m.Intn(5)
	}
	if m.strikes() {
		d.name = m.one("nowhere", "v", "f6")
	}
	line := "call " + name + " " + d.name
	for range n {
		line += " " + m.expr(1+m.Intn(4))
	}
	return line
}

// stmts returns lines of statements that are up to so many deep.
func (m *maker) stmts(depth int) []string {
	var l []string
	for range m.Intn(5) {
		// A statement is kept for each function, which writes a variable that is read in it.
		if depth == 0 || m.left <= len(m.funcs) {
			break
		}
		m.left--
		if m.Intn(3) > 0 {
			l = append(l, m.line())
			continue
		}
		inner := m.stmts(depth - 1)
		head := m.one("if "+m.expr(4), "while "+m.expr(4), "for w "+m.expr(2)+" "+m.expr(2), "try "+m.one("v", "w"))
		l = append(append(l, head), inner...)
		switch {
		case strings.HasPrefix(head, "try"):
			l = append(append(l, "catch"), m.stmts(depth-1)...)
		case strings.HasPrefix(head, "if") && m.Intn(2) > 0:
			if other := m.stmts(depth - 1); len(other) > 0 {
				l = append(append(l, "else"), other...)
			}
		}
		l = append(l, "end")
	}
	return l
}

// TestSomePrograms compares Check with the plain reading, and sees that each error comes in each of several functions.
func TestSomePrograms(t *testing.T) {
	found, at := map[api.Errno]int{}, map[api.Errno]map[int]bool{}
	somePrograms(t, func(p api.Program) {
		i, e := wantPlain(t, p)
		found[e]++
		if at[e] == nil {
			at[e] = map[int]bool{}
		}
		at[e][i] = true
	})
	for _, e := range []api.Errno{api.OK, api.ErrExists, api.ErrArity, api.ErrLimit, api.ErrUndefined, api.ErrMismatch} {
		if found[e] < 30 || e != api.OK && len(at[e]) < 4 {
			t.Errorf("the error %d is there %d times, in %d different functions", e, found[e], len(at[e]))
		}
	}
	if found[api.OK] < 800 || found[api.OK] > 2200 {
		t.Errorf("%d programs are right", found[api.OK])
	}
}

// fullText is a right program with statements and expressions of all kinds, several deep.
const fullText = "func main; set x new 3; call r g x 1; call r none; try e; store 2 x field 1 x; throw r; catch; if less e 0; emit e; else; while x; reduce r min e; end; end; end; return r; end; " +
	"func g a b; for i 0 b; ask q add i a; reduce s add q; if q; return add s b; else; call t g s a; end; end; call s main; return nil; end; func none; end; func last p q r; set p 1; end"

// TestEveryChange changes a right program in one place after the other, so that most of the others are wrong.
func TestEveryChange(t *testing.T) {
	p := program(t, fullText)
	wantCheck(t, p, 0, api.OK)
	q := copied(p)
	found := map[api.Errno]int{}
	everyChange(reflect.ValueOf(&q).Elem(), func() {
		_, e := wantPlain(t, q)
		found[e]++
	})
	wantCheck(t, q, 0, api.OK)
	for e, least := range map[api.Errno]int{api.OK: 100, api.ErrInvalid: 1000, api.ErrExists: 10, api.ErrArity: 10, api.ErrUndefined: 40, api.ErrMismatch: 3} {
		if found[e] < least {
			t.Errorf("the error %d is there %d times", e, found[e])
		}
	}
}

// everyChange changes a tree in one place after the other, and calls visit after each change.
func everyChange(tree reflect.Value, visit func()) {
	before := reflect.New(tree.Type()).Elem()
	before.Set(tree)
	changed := func(now reflect.Value) {
		tree.Set(now)
		visit()
		tree.Set(before)
	}
	switch tree.Kind() {
	case reflect.Struct:
		for i := range tree.NumField() {
			everyChange(tree.Field(i), visit)
		}
	case reflect.Slice:
		for i := range tree.Len() {
			without := reflect.AppendSlice(reflect.MakeSlice(tree.Type(), 0, tree.Len()), before.Slice(0, i))
			changed(reflect.AppendSlice(without, before.Slice(i+1, tree.Len())))
			twice := reflect.AppendSlice(reflect.MakeSlice(tree.Type(), 0, tree.Len()+1), before)
			changed(reflect.Append(twice, before.Index(i)))
			everyChange(tree.Index(i), visit)
		}
		changed(reflect.Append(reflect.AppendSlice(reflect.MakeSlice(tree.Type(), 0, tree.Len()+1), before), reflect.Zero(tree.Type().Elem())))
	case reflect.String:
		for _, s := range []string{before.String() + "a", "", "A", "end", "a", "g", "x", "main", "none"} {
			changed(reflect.ValueOf(s))
		}
	default:
		for _, n := range []int64{1, 2, 3, -1, -2, 1 << 32} {
			changed(reflect.ValueOf(before.Int() + n).Convert(tree.Type()))
		}
	}
}
