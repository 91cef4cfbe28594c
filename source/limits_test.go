package source_test

import (
	"fmt"
	"slices"
	"strings"
	"testing"

	"speculate/api"
)

func functions(n int) api.Program {
	p := api.Program{}
	for i := range n {
		p.Funcs = append(p.Funcs, function(fmt.Sprint("f", i)))
	}
	return p
}

// within is what Shaped says of a number that may be from low to high.
func within(n, low, high int) api.Errno {
	if n < low || n > high {
		return api.ErrLimit
	}
	return api.OK
}

func TestNoFunctions(t *testing.T) {
	wantShaped(t, api.Program{}, api.ErrLimit)
	wantShaped(t, of(), api.ErrLimit)
	wantShaped(t, of(function("f")), api.OK)
	wantShaped(t, of(api.Func{}), api.ErrInvalid)
}

func TestFunctionsLimit(t *testing.T) {
	for n := range 40 {
		wantShaped(t, functions(n), within(n, 1, api.MaxFuncs))
		wantShaped(t, of(slices.Repeat([]api.Func{function("f", plain())}, n)...), within(n, 1, api.MaxFuncs))
	}
	wantShaped(t, functions(10000), api.ErrLimit)
}

func TestParamsLimit(t *testing.T) {
	for n := range 20 {
		f := function("f", plain())
		f.Params = strings.Fields("a b c d e g h i j k l m n o p q r s t u")[:n]
		right := function("g")
		right.Params = []string{"a", "b", "c", "d"}
		wantShaped(t, of(f), within(n, 0, api.MaxParams))
		wantShaped(t, of(f, right, right), within(n, 0, api.MaxParams))
		wantShaped(t, of(right, f, right), within(n, 0, api.MaxParams))
		wantShaped(t, of(right, right, f), within(n, 0, api.MaxParams))
		f.Params = slices.Repeat([]string{"a"}, n)
		wantShaped(t, of(f), within(n, 0, api.MaxParams))
	}
}

// TestParamsOfEachFunction checks that the parameters of several functions do not add up.
func TestParamsOfEachFunction(t *testing.T) {
	p := functions(api.MaxFuncs)
	for i := range p.Funcs {
		p.Funcs[i].Params = []string{"a", "b", "c", "d"}
	}
	wantShaped(t, p, api.OK)
}

func TestStmtsLimit(t *testing.T) {
	for n := range 200 {
		want := within(n, 0, api.MaxStmts)
		l := slices.Repeat(stmts(plain()), n)
		wantShaped(t, program(l...), want)
		for _, nest := range nests() {
			if n > 0 {
				wantShaped(t, program(nest(l[1:]...)), want)
				wantShaped(t, of(function("f", l[:n/2]...), function("g", nest(l[n/2+1:]...))), want)
			}
		}
	}
	wantShaped(t, program(slices.Repeat(stmts(plain()), 100000)...), api.ErrLimit)
}

// TestStmtsOfAllFunctions checks that the statements of all functions add up.
func TestStmtsOfAllFunctions(t *testing.T) {
	p := functions(api.MaxFuncs)
	for i := range p.Funcs {
		p.Funcs[i].Body = slices.Repeat(stmts(plain()), api.MaxStmts/api.MaxFuncs)
	}
	wantShaped(t, p, api.OK)
	for i := range p.Funcs {
		before := p.Funcs[i].Body
		p.Funcs[i].Body = append(slices.Clone(before), plain())
		wantShaped(t, p, api.ErrLimit)
		p.Funcs[i].Body = before
	}
	half := slices.Repeat(stmts(plain()), api.MaxStmts/2)
	wantShaped(t, of(function("f", half...), function("g"), function("h", half...)), api.OK)
	wantShaped(t, of(function("f", half...), function("g", plain()), function("h", half...)), api.ErrLimit)
}

// TestStmtsOfBothBodies checks that Body and Else add up.
func TestStmtsOfBothBodies(t *testing.T) {
	for n := range 70 {
		l := slices.Repeat(stmts(plain()), n)
		for _, rest := range []int{0, 1, 30, 40} {
			both := slices.Repeat(stmts(plain()), rest)
			want := within(1+n+rest, 0, api.MaxStmts)
			wantShaped(t, program(api.Stmt{Kind: api.SIf, Exprs: exprs(null()), Body: l, Else: both}), want)
			wantShaped(t, program(api.Stmt{Kind: api.STry, Name: "e", Body: both, Else: l}), want)
		}
	}
}

func TestDepthLimit(t *testing.T) {
	for depth := 1; depth < 30; depth++ {
		want := within(depth, 1, api.MaxNest)
		for _, nest := range nests() {
			s := nested(depth, nest, plain())
			wantShaped(t, program(s), want)
			wantShaped(t, program(nested(depth, nest, nest())), want)
			wantShaped(t, program(plain(), s, plain()), want)
			wantShaped(t, of(function("f", plain()), function("g", s), function("h", plain())), want)
			for _, other := range nests() {
				wantShaped(t, program(other(s)), within(depth+1, 1, api.MaxNest))
			}
		}
	}
}

// TestDepthOfSeveral checks that the depths of statements that are not within one another do not add up.
func TestDepthOfSeveral(t *testing.T) {
	for _, nest := range nests() {
		six := nested(6, nest, plain())
		wantShaped(t, program(six, six, six), api.OK)
		wantShaped(t, of(function("f", six, six), function("g", six), function("h", six, six)), api.OK)
		five := nested(5, nest, plain())
		wantShaped(t, program(nest(five, five, five)), api.OK)
		wantShaped(t, program(nest(five, six)), api.ErrLimit)
		wantShaped(t, program(api.Stmt{Kind: api.SIf, Exprs: exprs(null()), Body: stmts(five), Else: stmts(five)}), api.OK)
		wantShaped(t, program(api.Stmt{Kind: api.SIf, Exprs: exprs(null()), Body: stmts(plain()), Else: stmts(six)}), api.ErrLimit)
		wantShaped(t, program(api.Stmt{Kind: api.STry, Name: "e", Body: stmts(six), Else: stmts(plain())}), api.ErrLimit)
	}
}

// TestEveryLimitAtOnce is a program at each limit.
func TestEveryLimitAtOnce(t *testing.T) {
	p := functions(api.MaxFuncs)
	full := tree(api.MaxNodes)
	for i := range p.Funcs {
		p.Funcs[i].Params = []string{"a", "b", "c", "d"}
		p.Funcs[i].Body = slices.Repeat(stmts(call("abcdefghijklmnop", "f", full, full, full, full)), 4)
	}
	p.Funcs[0].Body = slices.Repeat(stmts(plain()), 3)
	p.Funcs[7].Body = stmts(nested(5, while, plain()))
	wantShaped(t, p, api.OK)
	if count := count(p.Funcs[0].Body) + count(p.Funcs[7].Body); count != 8 {
		t.Errorf("the two functions have %d statements", count)
	}
	p.Funcs[7].Body = stmts(nested(6, while, plain()))
	wantShaped(t, p, api.ErrLimit)
	p.Funcs[0].Body = p.Funcs[0].Body[1:]
	wantShaped(t, p, api.OK)
}

// beyond are programs that are beyond one limit each, in which the functions from the first one on have something in their bodies.
func beyond() map[string]api.Program {
	five := function("f", plain(), plain())
	five.Params = strings.Fields("a b c d e")
	return map[string]api.Program{
		"functions":          of(slices.Repeat([]api.Func{function("f", plain())}, 17)...),
		"parameters":         of(function("e", plain()), five, function("g", plain())),
		"statements":         program(slices.Repeat(stmts(plain()), 65)...),
		"statements of two":  of(function("f", slices.Repeat(stmts(plain()), 32)...), function("g", slices.Repeat(stmts(plain()), 33)...)),
		"depth":              program(plain(), nested(7, while, plain()), plain()),
		"depth of the last":  of(function("f", plain()), function("g", nested(7, while, plain()))),
		"depth of the first": of(function("f", nested(9, while, plain())), function("g", plain())),
	}
}

// TestInvalidComesFirst puts something that is not valid everywhere in programs that are beyond a limit.
func TestInvalidComesFirst(t *testing.T) {
	for _, p := range beyond() {
		wantShaped(t, p, api.ErrLimit)
		for i := range p.Funcs {
			f := p.Funcs[i]
			wrong := func(change func(f *api.Func)) {
				p.Funcs[i].Params, p.Funcs[i].Body = slices.Clone(f.Params), slices.Clone(f.Body)
				change(&p.Funcs[i])
				wantShaped(t, p, api.ErrInvalid)
				p.Funcs[i] = f
			}
			wrong(func(f *api.Func) { f.Name = "A" })
			wrong(func(f *api.Func) { f.Params = append(f.Params, "") })
			wrong(func(f *api.Func) { f.Params = append([]string{"end"}, f.Params...) })
			for _, s := range []api.Stmt{{}, assign("a", api.Expr{}), assign("a", tree(17)), while(while(assign("a", field(16, null())))), nested(12, while, api.Stmt{})} {
				wrong(func(f *api.Func) { f.Body = append(f.Body, s) })
				wrong(func(f *api.Func) { f.Body = append(stmts(s), f.Body...) })
				for at := range f.Body {
					wrong(func(f *api.Func) { f.Body[at] = s })
					if f.Body[at].Kind == api.SWhile {
						wrong(func(f *api.Func) { f.Body[at].Body = append(slices.Clone(f.Body[at].Body), s) })
					}
				}
			}
		}
	}
	wantShaped(t, of(function("f", slices.Repeat(stmts(plain()), 1000)...), function("")), api.ErrInvalid)
	wantShaped(t, of(append(slices.Repeat([]api.Func{function("f")}, 1000), function("9"))...), api.ErrInvalid)
}

// TestDeepStmts has statements that are as deep as the document allows.
func TestDeepStmts(t *testing.T) {
	const deep = 1 << 16
	for _, nest := range nests() {
		wantShaped(t, program(nested(deep, nest, plain())), api.ErrLimit)
		wantShaped(t, program(nested(deep, nest, api.Stmt{})), api.ErrInvalid)
	}
}
