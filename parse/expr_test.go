package parse_test

import (
	"slices"
	"strings"
	"testing"

	"speculate/api"
	"speculate/parse"
)

// wantWords checks the words of an expression; none stands for nothing.
func wantWords(t *testing.T, e api.Expr, want string) {
	t.Helper()
	if l := parse.Expr(e); !slices.Equal(l, strings.Fields(want)) {
		t.Fatalf("Expr(%s) = %q, want %q", brief(e), brief(l), brief(want))
	}
}

func wantNoWords(t *testing.T, e api.Expr) {
	t.Helper()
	if l := parse.Expr(e); len(l) != 0 {
		t.Fatalf("Expr(%s) = %q, want nothing", brief(e), brief(l))
	}
}

// leaves are the expressions without others, and their words.
func leaves() map[string]api.Expr {
	return map[string]api.Expr{
		"0": number(0), "1": number(1), "-1": number(-1), "12": number(12), "-120": number(-120),
		"9223372036854775807": number(most), "-9223372036854775808": number(least),
		"nil": null(),
		"a":   variable("a"), "abcdefghijklmnop": variable("abcdefghijklmnop"), "x9": variable("x9"),
		"new 0": created(0), "new 3": created(3), "new 16": created(16),
	}
}

// around are the ways in which an expression may have another one within it, and the words before and behind that one.
func around() map[string]func(e api.Expr) api.Expr {
	all := map[string]func(e api.Expr) api.Expr{}
	for _, n := range []int64{0, 1, 9, 10, 15} {
		all["field "+number10(n)+" _"] = func(e api.Expr) api.Expr { return field(n, e) }
	}
	for i, name := range operators() {
		all[name+" _ a"] = func(e api.Expr) api.Expr { return binary(i+1, e, variable("a")) }
		all[name+" -7 _"] = func(e api.Expr) api.Expr { return binary(i+1, number(-7), e) }
	}
	return all
}

func number10(n int64) string { return parse.Expr(number(n))[0] }

func TestExprAlone(t *testing.T) {
	for want, e := range leaves() {
		wantWords(t, e, want)
	}
}

func TestExprWithin(t *testing.T) {
	for inner, e := range leaves() {
		for outer, with := range around() {
			one := strings.Replace(outer, "_", inner, 1)
			wantWords(t, with(e), one)
			for outmost, within := range around() {
				wantWords(t, within(with(e)), strings.Replace(outmost, "_", one, 1))
			}
		}
	}
}

func TestExprBothSides(t *testing.T) {
	for a, left := range leaves() {
		for b, right := range leaves() {
			wantWords(t, binary(api.OpSub, left, right), "sub "+a+" "+b)
			wantWords(t, binary(api.OpMax, field(2, left), binary(api.OpEqual, right, left)), "max field 2 "+a+" equal "+b+" "+a)
		}
	}
}

// TestExprOtherFields checks that nothing but the elements and the operator keeps an expression from having words.
func TestExprOtherFields(t *testing.T) {
	wantWords(t, api.Expr{Kind: api.ENum, N: 3, Name: "x", Op: 99}, "3")
	wantWords(t, api.Expr{Kind: api.ENil, N: 3, Name: "x", Op: -1}, "nil")
	wantWords(t, api.Expr{Kind: api.EVar, N: 3, Name: "x", Op: 12}, "x")
	wantWords(t, api.Expr{Kind: api.EField, N: 3, Name: "x", Op: 12, L: []api.Expr{null()}}, "field 3 nil")
	wantWords(t, api.Expr{Kind: api.EBin, N: 3, Name: "x", Op: 2, L: []api.Expr{null(), number(1)}}, "sub nil 1")
	wantWords(t, api.Expr{Kind: api.ENew, N: 3, Name: "x", Op: 12}, "new 3")
	wantWords(t, api.Expr{Kind: api.ENum, L: []api.Expr{}}, "0")
	for _, n := range []int64{-1, 16, 17, least, most} {
		wantWords(t, field(n, variable("a")), "field "+number10(n)+" a")
		wantWords(t, created(n), "new "+number10(n))
	}
}

// TestExprAnyName checks that a variable has words whatever its name is.
func TestExprAnyName(t *testing.T) {
	for _, name := range []string{"", "A", "a b", "nil", "add", "7", "\n", "\"", "\xff\x00", strings.Repeat("a", 5000)} {
		if l := parse.Expr(variable(name)); len(l) != 1 || l[0] != name {
			t.Errorf("the words of the variable %q are %q", brief(name), brief(l))
		}
		if l := parse.Expr(field(1, variable(name))); !slices.Equal(l, []string{"field", "1", name}) {
			t.Errorf("the words of a field of the variable %q are %q", brief(name), brief(l))
		}
	}
}

// wrongExprs are expressions that have no words though all that is within them has.
func wrongExprs() []api.Expr {
	elements := []api.Expr{number(1), variable("b"), null(), created(2)}
	var all []api.Expr
	right := map[int]int{api.ENum: 0, api.ENil: 0, api.EVar: 0, api.EField: 1, api.EBin: 2, api.ENew: 0}
	for kind := -3; kind < 12; kind++ {
		for n := range 5 {
			if wanted, known := right[kind]; !known || wanted != n {
				all = append(all, api.Expr{Kind: kind, N: 1, Name: "a", Op: api.OpAdd, L: elements[:n]})
			}
		}
	}
	for _, op := range []int{0, -1, 12, 13, 1 << 32, least, most} {
		all = append(all, binary(op, number(1), number(2)))
	}
	for _, kind := range []int{least, most, 1 << 32, 1<<32 + api.ENil} {
		all = append(all, api.Expr{Kind: kind})
	}
	return all
}

func TestExprWrong(t *testing.T) {
	wrong := wrongExprs()
	if len(wrong) < 70 {
		t.Fatalf("only %d wrong expressions", len(wrong))
	}
	for _, e := range wrong {
		wantNoWords(t, e)
		for _, with := range around() {
			wantNoWords(t, with(e))
			wantNoWords(t, with(chain(9, e)))
			wantNoWords(t, chain(9, with(e)))
			wantNoWords(t, binary(api.OpAdd, chain(3, with(e)), chain(2, null())))
		}
	}
}

// TestExprHasNoLimit checks that the limits of an expression are left to others.
func TestExprHasNoLimit(t *testing.T) {
	for _, nodes := range []int{16, 17, 300, 1 << 16} {
		wantWords(t, chain(nodes, number(4)), strings.Repeat("field 1 ", nodes-1)+"4")
		wantNoWords(t, chain(nodes, api.Expr{}))
		left, right := null(), null()
		for range nodes {
			left, right = binary(api.OpAdd, left, number(1)), binary(api.OpMul, number(1), right)
		}
		wantWords(t, left, strings.Repeat("add ", nodes)+"nil"+strings.Repeat(" 1", nodes))
		wantWords(t, right, strings.Repeat("mul 1 ", nodes)+"nil")
	}
}
