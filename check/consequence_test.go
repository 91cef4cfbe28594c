package check_test

import (
	"math/rand"
	"slices"
	"testing"

	"speculate/api"
	"speculate/check"
)

// TestExample is the chapter's example.
func TestExample(t *testing.T) {
	wantText(t, "func f; emit a; end", 0, api.ErrUndefined)
	wantText(t, "func f; set a 1; emit a; end", 0, api.OK)
}

// TestExampleOfTheDocument is a right program.
func TestExampleOfTheDocument(t *testing.T) {
	wantText(t, "func main; set a add 1 2; return a; end", 0, api.OK)
}

// addition is a function that nobody calls, with its error.
type addition struct {
	functions []api.Func
	code      api.Errno
}

func additions(t *testing.T) []addition {
	t.Helper()
	var l []addition
	for text, code := range map[string]api.Errno{
		"func new1; end": api.OK, "func new1 a b c d; return add a b; end": api.OK, "func new1; call a f0; end": api.OK, "func new1 a; call a new1 a; end": api.OK,
		"func new1 a a; end": api.ErrExists, "func new1; emit unknown; end": api.ErrUndefined, "func new1; call a new1 1; end": api.ErrArity, "func new1; call a nowhere; end": api.ErrUndefined, "func new1; reduce a sub 1; end": api.ErrMismatch,
		written(function("new1", writing("set V 1", 0, 17)...)): api.ErrLimit,
	} {
		l = append(l, addition{program(t, text).Funcs, code})
	}
	return l
}

func size(p api.Program) int {
	n := 0
	for _, f := range p.Funcs {
		n += len(flat(f.Body))
	}
	return n
}

// TestAnotherFunction adds functions that nobody calls behind all others. A program that gets too large by that is not shaped, which is an error of the new function, too.
func TestAnotherFunction(t *testing.T) {
	all, added, kept := additions(t), map[api.Errno]int{}, 0
	somePrograms(t, func(p api.Program) {
		at, e := check.Check(p)
		for _, another := range all {
			q := api.Program{Funcs: slices.Concat(p.Funcs, another.functions)}
			switch {
			case size(q) > api.MaxStmts:
				wantCheck(t, q, 0, api.ErrLimit)
			case e != api.OK:
				kept++
				wantCheck(t, q, at, e)
			case another.code != api.OK:
				added[another.code]++
				wantCheck(t, q, len(p.Funcs), another.code)
			default:
				added[api.OK]++
				wantCheck(t, q, 0, api.OK)
			}
		}
	})
	for _, another := range all {
		if added[another.code] < 500 {
			t.Errorf("a function with the error %d was added %d times", another.code, added[another.code])
		}
	}
	if kept < 3000 {
		t.Errorf("an error was kept %d times", kept)
	}
}

// TestOtherNames checks that with other names of its functions and variables a program has the same error.
func TestOtherNames(t *testing.T) {
	r := rand.New(rand.NewSource(7))
	somePrograms(t, func(p api.Program) {
		if r.Intn(4) > 0 {
			return
		}
		at, e := check.Check(p)
		wantCheck(t, renamed(p), at, e)
	})
}

// renamed returns a program with longer names.
func renamed(p api.Program) api.Program {
	longer := func(s *string) {
		if *s != "" {
			*s = "z" + *s
		}
	}
	q := copied(p)
	var exprs func(l []api.Expr)
	exprs = func(l []api.Expr) {
		for i := range l {
			longer(&l[i].Name)
			exprs(l[i].L)
		}
	}
	var stmts func(l []api.Stmt)
	stmts = func(l []api.Stmt) {
		for i := range l {
			longer(&l[i].Name)
			longer(&l[i].Func)
			exprs(l[i].Exprs)
			stmts(l[i].Body)
			stmts(l[i].Else)
		}
	}
	for i := range q.Funcs {
		longer(&q.Funcs[i].Name)
		for j := range q.Funcs[i].Params {
			longer(&q.Funcs[i].Params[j])
		}
		stmts(q.Funcs[i].Body)
	}
	return q
}
