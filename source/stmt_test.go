package source_test

import (
	"fmt"
	"slices"
	"testing"

	"speculate/api"
)

// rightStmts has one statement of each kind, with all the parts that it may have.
func rightStmts() map[string]api.Stmt {
	one, two := exprs(variable("x")), exprs(number(1), variable("y"))
	return map[string]api.Stmt{
		"assign": {Kind: api.SAssign, Name: "a", Exprs: one},
		"store":  {Kind: api.SStore, N: 15, Exprs: two},
		"call":   {Kind: api.SCall, Name: "a", Func: "f", Exprs: exprs(number(1), null(), variable("x"), created(2))},
		"if":     {Kind: api.SIf, Exprs: one, Body: stmts(plain()), Else: stmts(plain())},
		"for":    {Kind: api.SFor, Name: "a", Exprs: two, Body: stmts(plain())},
		"while":  {Kind: api.SWhile, Exprs: one, Body: stmts(plain())},
		"return": {Kind: api.SReturn, Exprs: one},
		"throw":  {Kind: api.SThrow, Exprs: one},
		"try":    {Kind: api.STry, Name: "a", Body: stmts(plain()), Else: stmts(plain())},
		"emit":   {Kind: api.SEmit, Exprs: one},
		"ask":    {Kind: api.SAsk, Name: "a", Exprs: one},
		"reduce": {Kind: api.SReduce, Name: "a", Op: api.OpMax, Exprs: one},
	}
}

// positions are the ways in which a statement may stand in a program.
func positions() map[string]func(s api.Stmt) api.Program {
	l := map[string]func(s api.Stmt) api.Program{
		"alone":          func(s api.Stmt) api.Program { return program(s) },
		"first":          func(s api.Stmt) api.Program { return program(s, plain(), plain()) },
		"last":           func(s api.Stmt) api.Program { return program(plain(), plain(), s) },
		"first function": func(s api.Stmt) api.Program { return of(function("f", s), function("g", plain())) },
		"last function":  func(s api.Stmt) api.Program { return of(function("f", plain()), function("g"), function("h", s)) },
	}
	for name, nest := range nests() {
		l[name] = func(s api.Stmt) api.Program { return program(plain(), nest(plain(), s, plain()), plain()) }
		l["deep in "+name] = func(s api.Stmt) api.Program { return program(nested(5, nest, s)) }
	}
	return l
}

func wantStmt(t *testing.T, s api.Stmt, want api.Errno) {
	t.Helper()
	wantEverywhere(t, positions(), plain(), s, want)
}

func rightStmt(t *testing.T, l ...api.Stmt) {
	t.Helper()
	for _, s := range l {
		wantStmt(t, s, api.OK)
	}
}

func wrongStmt(t *testing.T, l ...api.Stmt) {
	t.Helper()
	for _, s := range l {
		wantStmt(t, s, api.ErrInvalid)
	}
}

// parts says of each kind which parts it has: S for Name, F for Func, N, O for Op, B for Body and E for Else.
var parts = map[string]string{
	"assign": "S", "store": "N", "call": "SF", "if": "BE", "for": "SB", "while": "B", "return": "", "throw": "", "try": "SBE", "emit": "", "ask": "S", "reduce": "SO",
}

// fewest and most expressions of each kind.
var counts = map[string][2]int{
	"assign": {1, 1}, "store": {2, 2}, "call": {0, 4}, "if": {1, 1}, "for": {2, 2}, "while": {1, 1}, "return": {1, 1}, "throw": {1, 1}, "try": {0, 0}, "emit": {1, 1}, "ask": {1, 1}, "reduce": {1, 1},
}

func has(kind string, part rune) bool { return slices.Contains([]rune(parts[kind]), part) }

func TestRightStmts(t *testing.T) {
	if len(rightStmts()) != 12 || len(parts) != 12 || len(counts) != 12 {
		t.Fatal("the kinds are not complete")
	}
	for _, s := range rightStmts() {
		rightStmt(t, s)
	}
}

func TestStmtsName(t *testing.T) {
	for kind, s := range rightStmts() {
		for _, name := range []string{"", "a", "abcdefghijklmnop", "z9", "A", "9", "nil", "end", "xor", "a b", "abcdefghijklmnopq", "\xff", " "} {
			s.Name = name
			if has(kind, 'S') == (name != "") && (name == "" || plainName(name)) {
				rightStmt(t, s)
			} else {
				wrongStmt(t, s)
			}
		}
	}
}

func TestStmtsFunc(t *testing.T) {
	for kind, s := range rightStmts() {
		for _, name := range []string{"", "f", "abcdefghijklmnop", "unknown", "F", "9", "call", "add", "f g", "abcdefghijklmnopq", "\xff"} {
			s.Func = name
			if has(kind, 'F') == (name != "") && (name == "" || plainName(name)) {
				rightStmt(t, s)
			} else {
				wrongStmt(t, s)
			}
		}
	}
}

func TestStmtsN(t *testing.T) {
	for kind, s := range rightStmts() {
		for _, n := range []int64{0, 1, 14, 15, 16, 17, -1, most, least, 1 << 32, -1 << 32, -1 << 62} {
			s.N = n
			if n == 0 || has(kind, 'N') && n > 0 && n < 16 {
				rightStmt(t, s)
			} else {
				wrongStmt(t, s)
			}
		}
	}
}

func TestStmtsOp(t *testing.T) {
	for kind, s := range rightStmts() {
		for _, op := range []int{0, 1, 2, 3, 4, 5, 6, 7, 8, 9, 10, 11, 12, 13, -1, -11, most, least, 1 << 32, 1<<32 + 1} {
			s.Op = op
			if has(kind, 'O') && op > 0 && op < 12 || !has(kind, 'O') && op == 0 {
				rightStmt(t, s)
			} else {
				wrongStmt(t, s)
			}
		}
	}
}

func TestStmtsExprs(t *testing.T) {
	for kind, s := range rightStmts() {
		for n := range 9 {
			s.Exprs = slices.Repeat(exprs(tree(16)), n)
			if n < counts[kind][0] || n > counts[kind][1] {
				wrongStmt(t, s)
				continue
			}
			rightStmt(t, s)
			for i := range n {
				for _, wrong := range []api.Expr{{}, tree(17), variable("A"), number(1), field(16, null())} {
					if wrong.Kind == api.ENum {
						wrong.Op = 1
					}
					s.Exprs = slices.Repeat(exprs(null()), n)
					s.Exprs[i] = wrong
					wrongStmt(t, s)
				}
			}
		}
	}
}

func TestStmtsBodies(t *testing.T) {
	lists := [][]api.Stmt{nil, {}, {plain()}, {plain(), plain()}, {{}}, {plain(), {Kind: 13}}}
	for kind, s := range rightStmts() {
		for i, body := range lists {
			for j, other := range lists {
				s.Body, s.Else = body, other
				if i < 2 && j < 2 || i < 4 && j < 4 && (i < 2 || has(kind, 'B')) && (j < 2 || has(kind, 'E')) {
					rightStmt(t, s)
				} else {
					wrongStmt(t, s)
				}
			}
		}
	}
}

// TestEmptyListsOfStmts checks that lists that may or must be empty may be nil or not.
func TestEmptyListsOfStmts(t *testing.T) {
	for kind, s := range rightStmts() {
		s.Body, s.Else = stmts(), stmts()
		if counts[kind][0] == 0 {
			s.Exprs = exprs()
		}
		rightStmt(t, s)
		s.Body, s.Else = nil, nil
		if counts[kind][0] == 0 {
			s.Exprs = nil
		}
		rightStmt(t, s)
	}
	rightStmt(t, call("a", "f"))
}

func TestStmtsOfUnknownKinds(t *testing.T) {
	for _, kind := range []int{0, 13, 14, -1, -12, 21, 256, 257, 1 << 32, 1<<32 + 1, most, least} {
		wrongStmt(t, api.Stmt{Kind: kind})
		for _, s := range rightStmts() {
			s.Kind = kind
			wantShaped(t, program(s), api.ErrInvalid)
		}
	}
}

// TestStmtsOfOtherKinds gives each statement the kind of each other one.
func TestStmtsOfOtherKinds(t *testing.T) {
	for _, s := range rightStmts() {
		for kind := -5; kind < 20; kind++ {
			s.Kind = kind
			p := program(s)
			wantShaped(t, p, plainProgram(p))
		}
	}
}

func TestFuncs(t *testing.T) {
	for _, name := range []string{"f", "abcdefghijklmnop", "z9", "", "F", "9", "func", "end", "add", "f g", "abcdefghijklmnopq", "\xff"} {
		want := api.ErrInvalid
		if plainName(name) {
			want = api.OK
		}
		right := function("g", plain())
		wantShaped(t, of(function(name)), want)
		wantShaped(t, of(function(name, plain()), right, right), want)
		wantShaped(t, of(right, right, function(name, plain())), want)
		for i := range 4 {
			f := right
			f.Params = []string{"a", "b", "c", "d"}
			f.Params[i] = name
			wantShaped(t, of(f), want)
			wantShaped(t, of(right, f, right), want)
		}
	}
}

// TestShapedIsNoCheck checks that what chapter 7 asks for is not asked for here.
func TestShapedIsNoCheck(t *testing.T) {
	f := function("f", assign("a", variable("unknown")), call("a", "unknown", null()), call("a", "f"), api.Stmt{Kind: api.SReduce, Name: "a", Op: api.OpSub, Exprs: exprs(null())})
	f.Params = []string{"f", "a", "a", "f"}
	wantShaped(t, of(f, f, f), api.OK)
	var l []api.Stmt
	for i := range 60 {
		l = append(l, assign(fmt.Sprint("v", i), number(1)))
	}
	wantShaped(t, program(l...), api.OK)
}

// TestEveryStmt compares all combinations of parts with the definition.
func TestEveryStmt(t *testing.T) {
	bodies := [][]api.Stmt{nil, {plain()}, {{}}}
	for kind := -1; kind <= 14; kind++ {
		for _, n := range []int64{-1, 0, 1, 15, 16} {
			for _, name := range []string{"", "a", "A"} {
				for _, function := range []string{"", "f", "call"} {
					for _, op := range []int{-1, 0, 1, 11, 12} {
						for count := range 6 {
							for _, body := range bodies {
								for _, other := range bodies {
									p := program(api.Stmt{Kind: kind, Name: name, Func: function, N: n, Op: op, Exprs: slices.Repeat(exprs(null()), count), Body: body, Else: other})
									wantShaped(t, p, plainProgram(p))
								}
							}
						}
					}
				}
			}
		}
	}
}
