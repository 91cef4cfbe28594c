package source_test

import (
	"fmt"
	"math/rand"
	"slices"
	"strings"
	"testing"

	"speculate/api"
	"speculate/source"
)

// plainReads reads P5.2.
func plainReads(e api.Expr) []string { return firsts(readsOf(e)) }

func readsOf(e api.Expr) []string {
	var found []string
	if e.Kind == api.EVar {
		found = append(found, e.Name)
	}
	for _, part := range e.L {
		found = append(found, readsOf(part)...)
	}
	return found
}

func wantReads(t *testing.T, e api.Expr, want ...string) {
	t.Helper()
	if l := source.Reads(e); !slices.Equal(l, want) {
		t.Fatalf("Reads(%s) = %s, want %s", brief(e), brief(l), brief(want))
	}
}

func TestReadsOfOne(t *testing.T) {
	wantReads(t, variable("a"), "a")
	for _, e := range []api.Expr{{}, number(1), null(), created(2), binary(api.OpAdd, number(1), number(2)), field(3, null()), {L: exprs()}} {
		wantReads(t, e)
	}
}

func TestReadsOrder(t *testing.T) {
	a, b, c, d := variable("a"), variable("b"), variable("c"), variable("d")
	wantReads(t, binary(api.OpAdd, b, a), "b", "a")
	wantReads(t, binary(api.OpSub, binary(api.OpMul, d, c), binary(api.OpAnd, b, a)), "d", "c", "b", "a")
	wantReads(t, binary(api.OpSub, field(1, binary(api.OpMul, c, field(2, d))), a), "c", "d", "a")
	wantReads(t, binary(api.OpSub, a, field(1, binary(api.OpMul, field(2, d), c))), "a", "d", "c")
	wantReads(t, field(0, field(1, field(2, b))), "b")
}

func TestReadsEachOnce(t *testing.T) {
	a, b, c := variable("a"), variable("b"), variable("c")
	wantReads(t, binary(api.OpAdd, a, a), "a")
	wantReads(t, binary(api.OpAdd, binary(api.OpAdd, b, a), binary(api.OpAdd, b, binary(api.OpAdd, c, a))), "b", "a", "c")
	wantReads(t, binary(api.OpAdd, field(0, b), field(1, field(2, binary(api.OpLess, b, a)))), "b", "a")
	wantReads(t, tree(501), "a")
}

// TestReadsNotShaped checks that only the kind of a node counts.
func TestReadsNotShaped(t *testing.T) {
	a, b, c := variable("a"), variable("b"), variable("c")
	with := func(e api.Expr, l ...api.Expr) api.Expr {
		e.L = l
		return e
	}
	wantReads(t, with(b, c, a), "b", "c", "a")
	wantReads(t, with(b, with(a, with(c, b, a)), b), "b", "a", "c")
	wantReads(t, with(number(1), b, a), "b", "a")
	wantReads(t, with(null(), a), "a")
	wantReads(t, with(created(1), field(99, a)), "a")
	wantReads(t, with(field(1, null()), a, b, c), "a", "b", "c")
	wantReads(t, with(binary(0, null(), null()), c), "c")
	for _, kind := range []int{-1, 0, 7, 99, 1<<32 + 3, most, least} {
		wantReads(t, api.Expr{Kind: kind, Name: "no", L: exprs(c, a)}, "c", "a")
	}
	for kind := api.ENum; kind <= api.ENew; kind++ {
		want := []string{"b"}
		if kind == api.EVar {
			want = []string{"n", "b"}
		}
		wantReads(t, api.Expr{Kind: kind, Name: "n", N: -1, Op: 99, L: exprs(b)}, want...)
	}
	wantReads(t, api.Expr{Kind: api.EVar, N: 3, Op: 3}, "")
}

func TestReadsOfAnyNames(t *testing.T) {
	odd := []string{"", "A", "end", "a b", "\xff\x00", strings.Repeat("long", 1000), "a", "a\x00"}
	e := api.Expr{}
	for range 2 {
		for _, name := range odd {
			e.L = append(e.L, variable(name))
		}
	}
	wantReads(t, e, odd...)
}

func TestReadsDeep(t *testing.T) {
	const deep = 1 << 16
	wantReads(t, chain(deep, variable("a")), "a")
	wantReads(t, chain(deep, null()))
	e, want := variable("inmost"), []string{"inmost"}
	for i := range deep - 1 {
		name := fmt.Sprint("v", i)
		e = binary(api.OpAdd, e, binary(api.OpSub, variable(name), variable("inmost")))
		want = append(want, name)
	}
	wantReads(t, e, want...)
}

func TestReadsWide(t *testing.T) {
	e, want := api.Expr{Kind: api.EBin}, []string{}
	for i := range 100000 {
		want = append(want, fmt.Sprint("v", i))
		e.L = append(e.L, variable(want[i]))
	}
	e.L = append(e.L, e.L...)
	wantReads(t, e, want...)
}

func TestReadsOfSomeExprs(t *testing.T) {
	r := rand.New(rand.NewSource(6))
	var wild func(depth int) api.Expr
	wild = func(depth int) api.Expr {
		e := api.Expr{Kind: r.Intn(5) + 1, Name: string(rune('a' + r.Intn(9)))}
		if depth > 0 {
			for range r.Intn(4) {
				e.L = append(e.L, wild(depth-1))
			}
		}
		return e
	}
	longest := 0
	for range 20000 {
		e := wild(4)
		wantReads(t, e, plainReads(e)...)
		longest = max(longest, len(readsOf(e)))
	}
	if longest < 20 {
		t.Errorf("no expression reads more than %d times", longest)
	}
}
