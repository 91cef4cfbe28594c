package parse_test

import (
	"reflect"
	"strings"
	"testing"

	"speculate/api"
	"speculate/parse"
	"speculate/source"
)

// one is an expression of several words.
func one() api.Expr { return binary(api.OpLess, field(2, variable("a")), number(-3)) }

const oneWords = "less field 2 a -3"

// simple are the statements without others, and their lines.
func simple() map[string]api.Stmt {
	l := func(l ...api.Expr) []api.Expr { return l }
	all := map[string]api.Stmt{
		"set a " + oneWords:                      assign("a", one()),
		"set b nil":                              assign("b", null()),
		"store 0 b nil":                          {Kind: api.SStore, Exprs: l(variable("b"), null())},
		"store 15 new 1 " + oneWords:             {Kind: api.SStore, N: 15, Exprs: l(created(1), one())},
		"store 7 " + oneWords + " 4":             {Kind: api.SStore, N: 7, Exprs: l(one(), number(4))},
		"call r g":                               {Kind: api.SCall, Name: "r", Func: "g"},
		"call r g 1":                             {Kind: api.SCall, Name: "r", Func: "g", Exprs: l(number(1))},
		"call r main " + oneWords + " nil":       {Kind: api.SCall, Name: "r", Func: "main", Exprs: l(one(), null())},
		"call r r 1 2 3":                         {Kind: api.SCall, Name: "r", Func: "r", Exprs: l(number(1), number(2), number(3))},
		"call x y field 0 a new 0 b " + oneWords: {Kind: api.SCall, Name: "x", Func: "y", Exprs: l(field(0, variable("a")), created(0), variable("b"), one())},
		"return a":                               {Kind: api.SReturn, Exprs: l(variable("a"))},
		"return " + oneWords:                     {Kind: api.SReturn, Exprs: l(one())},
		"throw 7":                                {Kind: api.SThrow, Exprs: l(number(7))},
		"throw " + oneWords:                      {Kind: api.SThrow, Exprs: l(one())},
		"emit -7":                                {Kind: api.SEmit, Exprs: l(number(-7))},
		"emit " + oneWords:                       {Kind: api.SEmit, Exprs: l(one())},
		"ask q 0":                                {Kind: api.SAsk, Name: "q", Exprs: l(number(0))},
		"ask q " + oneWords:                      {Kind: api.SAsk, Name: "q", Exprs: l(one())},
		"reduce s add " + oneWords:               {Kind: api.SReduce, Name: "s", Op: api.OpAdd, Exprs: l(one())},
	}
	for i, name := range operators() {
		all["reduce s "+name+" i"] = api.Stmt{Kind: api.SReduce, Name: "s", Op: i + 1, Exprs: l(variable("i"))}
		all["set a "+name+" i 1"] = assign("a", binary(i+1, variable("i"), number(1)))
	}
	return all
}

// nest makes a statement with others in it, and its lines.
type nest func(inner []api.Stmt, lines string) (api.Stmt, string)

// nests are the ways in which a statement may have others within it.
func nests() map[string]nest {
	first := assign("z", number(1))
	with := func(s api.Stmt, before, between string, other bool) nest {
		return func(inner []api.Stmt, lines string) (api.Stmt, string) {
			s := s
			if other {
				s.Else = inner
				return s, before + between + lines + "end\n"
			}
			s.Body = inner
			return s, before + lines + between + "end\n"
		}
	}
	branch := api.Stmt{Kind: api.SIf, Exprs: []api.Expr{one()}}
	try := api.Stmt{Kind: api.STry, Name: "e"}
	filled := func(s api.Stmt) api.Stmt {
		s.Body, s.Else = []api.Stmt{first}, []api.Stmt{first}
		return s
	}
	return map[string]nest{
		"if":           with(branch, "if "+oneWords+"\n", "", false),
		"if with else": with(filled(branch), "if "+oneWords+"\n", "else\nset z 1\n", false),
		"else":         with(filled(branch), "if "+oneWords+"\nset z 1\n", "else\n", true),
		"else alone":   with(branch, "if "+oneWords+"\n", "else\n", true),
		"for":          with(api.Stmt{Kind: api.SFor, Name: "i", Exprs: []api.Expr{number(0), one()}}, "for i 0 "+oneWords+"\n", "", false),
		"while":        with(api.Stmt{Kind: api.SWhile, Exprs: []api.Expr{one()}}, "while "+oneWords+"\n", "", false),
		"try":          with(try, "try e\n", "catch\n", false),
		"try to catch": with(filled(try), "try e\n", "catch\nset z 1\n", false),
		"catch":        with(filled(try), "try e\nset z 1\n", "catch\n", true),
		"catch alone":  with(try, "try e\n", "catch\n", true),
	}
}

func TestSimpleStatements(t *testing.T) {
	var body []api.Stmt
	var lines []string
	for line, s := range simple() {
		wantBoth(t, program(s), inMain(line))
		wantBoth(t, program(s, s), inMain(line, line))
		body, lines = append(body, s), append(lines, line)
	}
	wantBoth(t, program(body...), inMain(lines...))
}

func TestNestedStatements(t *testing.T) {
	for line, s := range simple() {
		for _, outer := range nests() {
			with, lines := outer([]api.Stmt{s}, line+"\n")
			wantBoth(t, program(with), text("func main")+lines+text("end"))
			with, lines = outer([]api.Stmt{s, s}, line+"\n"+line+"\n")
			wantBoth(t, program(s, with, s), text("func main", line)+lines+text(line, "end"))
			for _, outmost := range nests() {
				with, lines := outmost([]api.Stmt{with, s}, lines+line+"\n")
				wantBoth(t, program(with, with), text("func main")+lines+lines+text("end"))
			}
		}
	}
}

func TestEmptyBodies(t *testing.T) {
	l := func(l ...api.Expr) []api.Expr { return l }
	wantBoth(t, program(), inMain())
	wantBoth(t, program(api.Stmt{Kind: api.SIf, Exprs: l(one())}), inMain("if "+oneWords, "end"))
	wantBoth(t, program(api.Stmt{Kind: api.SFor, Name: "i", Exprs: l(one(), number(5))}), inMain("for i "+oneWords+" 5", "end"))
	wantBoth(t, program(api.Stmt{Kind: api.SWhile, Exprs: l(null())}), inMain("while nil", "end"))
	wantBoth(t, program(api.Stmt{Kind: api.STry, Name: "e"}), inMain("try e", "catch", "end"))
	none := []api.Stmt{}
	wantText(t, program(api.Stmt{Kind: api.SIf, Exprs: l(one()), Body: none, Else: none}), inMain("if "+oneWords, "end"))
	wantText(t, program(api.Stmt{Kind: api.SAssign, Name: "a", Exprs: l(null()), Body: none, Else: none}), inMain("set a nil"))
	wantText(t, program(api.Stmt{Kind: api.STry, Name: "e", Body: none, Else: none}), inMain("try e", "catch", "end"))
}

// TestDeepest checks statements of every kind at the greatest depth.
func TestDeepest(t *testing.T) {
	for _, outer := range nests() {
		body, lines := []api.Stmt{assign("a", null())}, "set a nil\n"
		for range api.MaxNest - 1 {
			s, l := outer(body, lines)
			body, lines = []api.Stmt{s}, l
		}
		wantBoth(t, program(body...), "func main\n"+lines+"end\n")
		s, lines := outer(body, lines)
		wantError(t, "func main\n"+lines+"end\n", 0, api.ErrLimit)
		wantNoText(t, program(s), api.ErrLimit)
	}
}

func TestFunctions(t *testing.T) {
	a := assign("a", number(1))
	wantBoth(t, of(function("f")), text("func f", "end"))
	wantBoth(t, of(function("f", a), function("g"), function("f")), text("func f", "set a 1", "end", "func g", "end", "func f", "end"))
	wantBoth(t, of(function("g"), function("f", a, a)), text("func g", "end", "func f", "set a 1", "set a 1", "end"))
	f := function("f", a)
	for _, params := range []string{"", "a", "a b", "b a", "a a", "a b c d", "abcdefghijklmnop f z0"} {
		f.Params = strings.Fields(params)
		wantBoth(t, of(f), text(strings.TrimSpace("func f "+params), "set a 1", "end"))
		wantBoth(t, of(function("main"), f, f), text("func main", "end")+strings.Repeat(text(strings.TrimSpace("func f "+params), "set a 1", "end"), 2))
	}
	var all []api.Func
	for range api.MaxFuncs {
		all = append(all, function("f"))
	}
	wantBoth(t, of(all...), strings.Repeat(text("func f", "end"), api.MaxFuncs))
}

func wantNoText(t *testing.T, p api.Program, want api.Errno) {
	t.Helper()
	if s, e := parse.Format(p); e != want || s != "" {
		t.Fatalf("Format(%s) = %q, %d; want the error %d", brief(p), brief(s), e, want)
	}
}

func TestFormatErrors(t *testing.T) {
	a := assign("a", number(1))
	f := function("f")
	f.Params = strings.Fields("a b c d e")
	for _, p := range []api.Program{{}, of(make([]api.Func, 0, 1)...), of(f), program(many(api.MaxStmts+1, a)...), of(many(api.MaxFuncs+1, function("f"))...)} {
		wantNoText(t, p, api.ErrLimit)
	}
	wrong := a
	wrong.N = 1
	for _, p := range []api.Program{
		of(function("")), of(function("F")), of(function("end")), of(api.Func{Name: "f", Params: []string{"a", "add"}}),
		program(api.Stmt{}), program(a, wrong), program(assign("a", chain(17, null()))), program(assign("a", variable("A"))),
		program(assign("a", field(16, null()))), program(assign("a", created(17))), program(assign("a", binary(12, null(), null()))),
		program(assign("a", api.Expr{})), program(api.Stmt{Kind: api.SAssign, Name: "a"}), program(assign("a b", null())),
		program(api.Stmt{Kind: api.SCall, Name: "a", Func: "f", Exprs: many(api.MaxParams+1, null())}),
		program(api.Stmt{Kind: api.SReduce, Name: "a", Exprs: many(1, null())}), program(api.Stmt{Kind: api.SStore, N: 16, Exprs: many(2, null())}),
	} {
		wantNoText(t, p, api.ErrInvalid)
	}
	// ErrInvalid comes first even beyond a limit.
	wantNoText(t, program(append(many(api.MaxStmts+1, a), wrong)...), api.ErrInvalid)
	wantNoText(t, of(f, f, function("")), api.ErrInvalid)
}

func many[T any](n int, x T) []T {
	l := make([]T, n)
	for i := range l {
		l[i] = x
	}
	return l
}

// TestFormatIsShaped changes programs everywhere, so that many of the others are not shaped.
func TestFormatIsShaped(t *testing.T) {
	f := function("f", assign("a", one()))
	f.Params = strings.Fields("a b c d")
	errors := map[api.Errno]int{}
	for _, p := range []api.Program{fullProgram(t), of(many(api.MaxFuncs, f)...), program(many(api.MaxStmts, f.Body[0])...)} {
		q := copied(p, false)
		everyChange(reflect.ValueOf(&q).Elem(), "", func(change string) {
			want := source.Shaped(q)
			errors[want]++
			if want != api.OK {
				wantNoText(t, q, want)
				return
			}
			s, e := parse.Format(q)
			if e != api.OK || s != plainText(q) {
				t.Fatalf("after the change %s Format is %q, %d", change, brief(s), e)
			}
		})
	}
	if errors[api.OK] < 500 || errors[api.ErrInvalid] < 3000 || errors[api.ErrLimit] < 30 {
		t.Errorf("errors %v", errors)
	}
}
