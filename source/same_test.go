package source_test

import (
	"fmt"
	"math/rand"
	"reflect"
	"slices"
	"strings"
	"testing"

	"speculate/api"
	"speculate/source"
)

func wantSame(t *testing.T, a, b api.Program, want bool) {
	t.Helper()
	if source.Same(a, b) != want || source.Same(b, a) != want {
		t.Fatalf("Same is not %v for %s and %s", want, brief(a), brief(b))
	}
}

// plainSame reads P5.3: the programs are deeply equal once no list is nil.
func plainSame(a, b api.Program) bool { return reflect.DeepEqual(copied(a, always), copied(b, always)) }

// copied returns a copy of a tree all of whose lists are new, and those that are empty nil or not as empty says.
func copied[T any](tree T, empty func() bool) T {
	result := reflect.New(reflect.TypeOf(tree)).Elem()
	copyTo(result, reflect.ValueOf(tree), empty)
	return result.Interface().(T)
}

func copyTo(to, from reflect.Value, empty func() bool) {
	switch from.Kind() {
	case reflect.Struct:
		for i := range from.NumField() {
			copyTo(to.Field(i), from.Field(i), empty)
		}
	case reflect.Slice:
		if from.Len() > 0 || empty() {
			to.Set(reflect.MakeSlice(from.Type(), from.Len(), from.Len()))
		}
		for i := range from.Len() {
			copyTo(to.Index(i), from.Index(i), empty)
		}
	default:
		to.Set(from)
	}
}

func never() bool  { return false }
func always() bool { return true }

// everyChange changes a tree in one place after the other, and calls visit after each change with what it was.
func everyChange(tree reflect.Value, path string, visit func(change string)) {
	before := reflect.New(tree.Type()).Elem()
	before.Set(tree)
	changed := func(change string, now reflect.Value) {
		tree.Set(now)
		visit(path + change)
		tree.Set(before)
	}
	switch tree.Kind() {
	case reflect.Struct:
		for i := range tree.NumField() {
			everyChange(tree.Field(i), path+"."+tree.Type().Field(i).Name, visit)
		}
	case reflect.Slice:
		everyListChange(tree, changed)
		for i := range tree.Len() {
			everyChange(tree.Index(i), fmt.Sprint(path, "[", i, "]"), visit)
		}
	case reflect.String:
		for _, s := range []string{before.String() + "a", before.String() + "\x00", " " + before.String(), strings.ToUpper(before.String()) + "A"} {
			changed(" = "+s, reflect.ValueOf(s))
		}
	default:
		for _, n := range []int64{1, -1, 1 << 8, 1 << 32, least} {
			changed(fmt.Sprint(" + ", n), reflect.ValueOf(before.Int()+n).Convert(tree.Type()))
		}
	}
}

// everyListChange takes one element away, or adds one that is zero or that the list has already, at each place.
func everyListChange(list reflect.Value, changed func(change string, now reflect.Value)) {
	with := func(to int, extra []reflect.Value, from int) reflect.Value {
		l := reflect.MakeSlice(list.Type(), 0, list.Len()+1)
		l = reflect.AppendSlice(l, list.Slice(0, to))
		l = reflect.Append(l, extra...)
		return reflect.AppendSlice(l, list.Slice(from, list.Len()))
	}
	zero := reflect.Zero(list.Type().Elem())
	for i := range list.Len() {
		changed(fmt.Sprint(" without ", i), with(i, nil, i+1))
		changed(fmt.Sprint(" twice ", i), with(i, []reflect.Value{list.Index(i)}, i))
	}
	for i := range list.Len() + 1 {
		changed(fmt.Sprint(" with another at ", i), with(i, []reflect.Value{zero}, i))
	}
}

// fullProgram has statements and expressions of all kinds, several deep, and every list with several elements somewhere.
func fullProgram() api.Program {
	deep := binary(api.OpLess, field(3, binary(api.OpAdd, variable("a"), number(-7))), binary(api.OpEqual, null(), created(4)))
	var all []api.Stmt
	for _, kind := range slices.Sorted(func(yield func(string) bool) {
		for kind := range rightStmts() {
			if !yield(kind) {
				return
			}
		}
	}) {
		all = append(all, rightStmts()[kind])
	}
	one := api.Stmt{Kind: api.STry, Name: "e", Body: append(all, assign("b", deep)), Else: stmts(plain(), api.Stmt{Kind: api.SIf, Exprs: exprs(deep), Body: stmts(plain()), Else: stmts(while(while(plain())), plain())})}
	f := function("f", one, call("c", "g", deep, number(1), variable("c")))
	f.Params = []string{"a", "b", "c"}
	g := function("g", assign("x", deep), api.Stmt{Kind: api.SReturn, Exprs: exprs(variable("x"))})
	g.Params = []string{"y"}
	return of(f, g, function("h"))
}

// everythingSet is a program in which every field of every node is set, whatever its kind.
func everythingSet() api.Program {
	leaf := api.Expr{Kind: 9, N: 8, Name: "n", Op: 7}
	e := api.Expr{Kind: 1, N: 2, Name: "m", Op: 3, L: exprs(leaf, leaf, api.Expr{Kind: 4, L: exprs(leaf)})}
	s := api.Stmt{Kind: 5, Name: "o", Func: "p", N: 6, Op: 7, Exprs: exprs(e, leaf)}
	for range 3 {
		inner := s
		inner.Body, inner.Else = stmts(s, plain()), stmts(plain(), s)
		s = inner
	}
	f := api.Func{Name: "q", Params: []string{"r", "", "t"}, Body: stmts(s, plain())}
	return of(f, api.Func{}, f)
}

func TestSameOrdinary(t *testing.T) {
	for _, p := range []api.Program{{}, functions(3), program(plain()), fullProgram(), everythingSet()} {
		wantSame(t, p, p, true)
		wantSame(t, p, copied(p, never), true)
		for _, q := range []api.Program{of(api.Func{}), functions(2), program(plain(), plain()), program(while(plain())), of(function("f", plain()))} {
			wantSame(t, p, q, false)
		}
	}
}

func TestSameExprs(t *testing.T) {
	l := []api.Expr{{}, number(0), number(1), null(), variable("a"), variable("b"), field(0, null()), field(1, null()), field(0, number(0)), created(0), created(1), binary(1, null(), number(1)), binary(2, null(), number(1)), binary(1, number(1), null()), tree(15), tree(16), chain(16, null())}
	for i, a := range l {
		for j, b := range l {
			wantSame(t, program(assign("a", a)), program(assign("a", b)), i == j)
			wantSame(t, program(assign("a", field(0, a))), program(assign("a", field(0, b))), i == j)
		}
	}
}

func TestSameStmts(t *testing.T) {
	var l []api.Stmt
	for _, s := range rightStmts() {
		l = append(l, s)
	}
	for _, nest := range nests() {
		l = append(l, nest(plain()), nest(nest(plain())), nest(plain(), plain()))
	}
	for i, a := range l {
		for j, b := range l {
			wantSame(t, program(a), program(b), i == j)
			wantSame(t, program(plain(), while(plain(), a)), program(plain(), while(plain(), b)), i == j)
		}
	}
}

func TestSameOrder(t *testing.T) {
	a, b := assign("a", number(1)), assign("b", number(1))
	wantSame(t, program(a, b), program(b, a), false)
	wantSame(t, of(function("f", a), function("g")), of(function("g"), function("f", a)), false)
	wantSame(t, of(withParams("a b")), of(withParams("b a")), false)
	wantSame(t, program(call("a", "f", null(), number(1))), program(call("a", "f", number(1), null())), false)
	wantSame(t, program(named(api.SIf, "", stmts(a), nil)), program(named(api.SIf, "", nil, stmts(a))), false)
	wantSame(t, program(named(api.SIf, "", stmts(a), stmts(b))), program(named(api.SIf, "", stmts(b), stmts(a))), false)
	wantSame(t, program(while(a), b), program(while(a, b)), false)
}

// TestSameEveryChange checks that a difference in one field, at any depth, makes a difference.
func TestSameEveryChange(t *testing.T) {
	for _, p := range []api.Program{fullProgram(), everythingSet(), program(nested(20, while, plain()))} {
		q := copied(p, never)
		changes, paths := 0, map[string]bool{}
		everyChange(reflect.ValueOf(&q).Elem(), "", func(change string) {
			changes++
			paths[change] = true
			if source.Same(p, q) || source.Same(q, p) {
				t.Fatalf("Same after the change %s", change)
			}
		})
		wantSame(t, p, q, true)
		if changes < 1000 || len(paths) < changes/2 {
			t.Errorf("%d changes, %d of them different", changes, len(paths))
		}
	}
}

// TestSameChangesFields checks that the changes reach every field of the types.
func TestSameChangesFields(t *testing.T) {
	fields := map[string]bool{}
	q := everythingSet()
	everyChange(reflect.ValueOf(&q).Elem(), "", func(change string) {
		for part := range strings.SplitSeq(change, ".") {
			name, _, _ := strings.Cut(part, "[")
			name, _, _ = strings.Cut(name, " ")
			fields[name] = true
		}
	})
	for _, name := range strings.Fields("Funcs Name Params Body Kind Func N Op Exprs Else L") {
		if !fields[name] {
			t.Errorf("no change of %s", name)
		}
	}
}

func TestSameNilAndEmptyLists(t *testing.T) {
	wantSame(t, api.Program{}, of(), true)
	wantSame(t, of(function("f")), of(api.Func{Name: "f", Params: []string{}, Body: stmts()}), true)
	r := rand.New(rand.NewSource(7))
	sometimes := func() bool { return r.Intn(2) == 0 }
	for _, p := range []api.Program{{}, functions(2), program(plain()), fullProgram(), everythingSet()} {
		full, none := copied(p, always), copied(p, never)
		wantSame(t, full, none, true)
		wantSame(t, full, full, true)
		for range 20 {
			wantSame(t, full, copied(p, sometimes), true)
			wantSame(t, none, copied(p, sometimes), true)
			wantSame(t, copied(p, sometimes), copied(p, sometimes), true)
		}
	}
}

// TestSameDoesNotRename checks that names count, though a program with others does the same.
func TestSameDoesNotRename(t *testing.T) {
	wantSame(t, program(assign("a", null())), program(assign("b", null())), false)
	wantSame(t, of(function("f")), of(function("g")), false)
	wantSame(t, program(assign("a", null())), program(assign("a\x00", null())), false)
}

func TestSameNotShaped(t *testing.T) {
	for kind := -2; kind < 15; kind++ {
		one := api.Program{Funcs: []api.Func{{Name: "\xff", Body: stmts(api.Stmt{Kind: kind, N: least, Op: most, Exprs: exprs(api.Expr{Kind: kind, L: exprs(api.Expr{Name: "A"})}), Else: stmts(api.Stmt{})})}}}
		other := copied(one, always)
		wantSame(t, one, other, true)
		other.Funcs[0].Body[0].Else[0].Kind = 1
		wantSame(t, one, other, false)
		other = copied(one, always)
		other.Funcs[0].Body[0].Exprs[0].L[0].Name = ""
		wantSame(t, one, other, false)
	}
}

func TestSameDeep(t *testing.T) {
	const deep = 1 << 16
	e, other := chain(deep, number(1)), chain(deep, number(2))
	wantSame(t, program(assign("a", e)), program(assign("a", chain(deep, number(1)))), true)
	wantSame(t, program(assign("a", e)), program(assign("a", other)), false)
	for _, nest := range nests() {
		p := program(nested(deep, nest, plain()))
		wantSame(t, p, program(nested(deep, nest, plain())), true)
		wantSame(t, p, program(nested(deep, nest, while())), false)
		wantSame(t, p, program(nested(deep-1, nest, plain())), false)
	}
}

func TestSameOfSomePrograms(t *testing.T) {
	var last api.Program
	same := map[bool]int{}
	somePrograms(func(p api.Program) {
		want := plainSame(p, last)
		same[want]++
		wantSame(t, p, last, want)
		wantSame(t, p, copied(p, always), true)
		last = p
	})
	if same[true] < 100 || same[false] < 1000 {
		t.Errorf("of programs that follow one another so many are the same or not: %v", same)
	}
}
