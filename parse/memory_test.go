package parse_test

import (
	"fmt"
	"reflect"
	"slices"
	"strings"
	"testing"

	"speculate/api"
	"speculate/parse"
	"speculate/source"
)

// copied returns a copy of a tree all of whose lists are new, with empty lists that are not nil if full.
func copied[T any](tree T, full bool) T {
	result := reflect.New(reflect.TypeOf(tree)).Elem()
	copyTo(result, reflect.ValueOf(tree), full)
	return result.Interface().(T)
}

func copyTo(to, from reflect.Value, full bool) {
	switch from.Kind() {
	case reflect.Struct:
		for i := range from.NumField() {
			copyTo(to.Field(i), from.Field(i), full)
		}
	case reflect.Slice:
		if from.Len() > 0 || full {
			to.Set(reflect.MakeSlice(from.Type(), from.Len(), from.Len()))
		}
		for i := range from.Len() {
			copyTo(to.Index(i), from.Index(i), full)
		}
	default:
		to.Set(from)
	}
}

// everyChange changes a tree in one place after the other, and calls visit after each change with what it was.
func everyChange(tree reflect.Value, path string, visit func(change string)) {
	before := reflect.New(tree.Type()).Elem()
	before.Set(tree)
	changed := func(change string, now reflect.Value) {
		tree.Set(now)
		visit(path + change)
		tree.Set(before)
	}
	switch tree.Kind() {
	case reflect.Struct:
		for i := range tree.NumField() {
			everyChange(tree.Field(i), path+"."+tree.Type().Field(i).Name, visit)
		}
	case reflect.Slice:
		for i := range tree.Len() {
			without := reflect.AppendSlice(reflect.MakeSlice(tree.Type(), 0, tree.Len()), before.Slice(0, i))
			changed(fmt.Sprint(" without ", i), reflect.AppendSlice(without, before.Slice(i+1, tree.Len())))
			twice := reflect.AppendSlice(reflect.MakeSlice(tree.Type(), 0, tree.Len()+1), before)
			changed(fmt.Sprint(" and again ", i), reflect.Append(twice, before.Index(i)))
			everyChange(tree.Index(i), fmt.Sprint(path, "[", i, "]"), visit)
		}
		changed(" and zero", reflect.Append(reflect.AppendSlice(reflect.MakeSlice(tree.Type(), 0, tree.Len()+1), before), reflect.Zero(tree.Type().Elem())))
	case reflect.String:
		for _, s := range []string{before.String() + "a", "", " " + before.String(), "A", "end"} {
			changed(" = "+s, reflect.ValueOf(s))
		}
	default:
		for _, n := range []int64{1, -1, 1 << 32} {
			changed(fmt.Sprint(" + ", n), reflect.ValueOf(before.Int()+n).Convert(tree.Type()))
		}
	}
}

// roomy returns a copy of a tree all of whose lists have something beyond their lengths.
func roomy[T any](tree T) T {
	result := copied(tree, true)
	widen(reflect.ValueOf(&result).Elem())
	return result
}

func widen(v reflect.Value) {
	switch v.Kind() {
	case reflect.Struct:
		for i := range v.NumField() {
			widen(v.Field(i))
		}
	case reflect.Slice:
		for i := range v.Len() {
			widen(v.Index(i))
		}
		wide := reflect.MakeSlice(v.Type(), v.Len()+3, v.Len()+3)
		reflect.Copy(wide, v)
		fill(wide.Slice(v.Len(), v.Len()+3), "beyond")
		v.Set(wide.Slice(0, v.Len()))
	}
}

// fill gives every field of what is in a list a value that would be seen.
func fill(v reflect.Value, mark string) {
	switch v.Kind() {
	case reflect.Struct:
		for i := range v.NumField() {
			fill(v.Field(i), mark)
		}
	case reflect.Slice:
		for i := range v.Len() {
			fill(v.Index(i), mark)
		}
	case reflect.String:
		v.SetString(mark)
	default:
		v.SetInt(3)
	}
}

// spoil changes all that is in a tree, and what lies beyond the lengths of its lists.
func spoil(v reflect.Value) {
	switch v.Kind() {
	case reflect.Struct:
		for i := range v.NumField() {
			spoil(v.Field(i))
		}
	case reflect.Slice:
		for i := range v.Len() {
			spoil(v.Index(i))
		}
		fill(v.Slice(0, v.Cap()), "spoiled")
	}
}

// whole shows a tree with all that lies beyond the lengths of its lists.
func whole(v reflect.Value) string {
	switch v.Kind() {
	case reflect.Struct:
		s := "{"
		for i := range v.NumField() {
			s += whole(v.Field(i)) + " "
		}
		return s + "}"
	case reflect.Slice:
		s := fmt.Sprint(v.Len(), " of ", v.Cap(), "[")
		for i := range v.Cap() {
			s += whole(v.Slice(0, v.Cap()).Index(i)) + " "
		}
		return s + "]"
	}
	return fmt.Sprint(v)
}

func show(tree any) string { return whole(reflect.ValueOf(tree)) }

func someTrees(t *testing.T) []api.Program {
	t.Helper()
	long := function("f", assign("a", chain(17, null())), assign("", api.Expr{}))
	return []api.Program{{}, program(), program(assign("a", one())), fullProgram(t), of(long, long)}
}

func TestRoomy(t *testing.T) {
	for _, p := range someTrees(t) {
		q := roomy(p)
		if !source.Same(p, q) || show(p) == show(q) || show(q) != show(roomy(p)) {
			t.Errorf("roomy is wrong for %s", brief(p))
		}
	}
}

func TestArgumentsAreKept(t *testing.T) {
	for _, p := range someTrees(t) {
		q := roomy(p)
		before := show(q)
		s, e := parse.Format(q)
		if want, wanted := parse.Format(p); s != want || e != wanted {
			t.Errorf("with something beyond its lists %s is written %q, %d", brief(p), s, e)
		}
		for _, f := range q.Funcs {
			for _, s := range f.Body {
				for _, e := range s.Exprs {
					parse.Expr(e)
				}
			}
		}
		if show(q) != before {
			t.Errorf("the argument became %s", show(q))
		}
	}
	e := roomy(binary(api.OpAdd, one(), chain(4, variable("a"))))
	before := show(e)
	wantWords(t, e, "add "+oneWords+" field 1 field 1 field 1 a")
	if show(e) != before {
		t.Errorf("the argument became %s", show(e))
	}
}

// TestParamsAreKept checks a function line, which is the only one with a list of the program in it.
func TestParamsAreKept(t *testing.T) {
	params := []string{"a", "b", "c", "d"}
	f := function("f", assign("x", null()))
	f.Params = params[:2]
	wantText(t, of(f), text("func f a b", "set x nil", "end"))
	if !slices.Equal(params, []string{"a", "b", "c", "d"}) {
		t.Errorf("the parameters became %q", params)
	}
}

// TestProgramsAreApart checks that no two lists of a program, nor of two of them, share memory, not even beyond their lengths.
func TestProgramsAreApart(t *testing.T) {
	first, second := fullProgram(t), fullProgram(t)
	type part struct{ from, to uintptr }
	var parts []part
	for _, p := range []*api.Program{&first, &second} {
		eachList(reflect.ValueOf(p).Elem(), func(l reflect.Value) {
			from := l.Pointer()
			to := from + uintptr(l.Cap())*l.Type().Elem().Size()
			for _, other := range parts {
				if from < other.to && other.from < to {
					t.Errorf("a list of %s shares memory", l.Type())
				}
			}
			parts = append(parts, part{from, to})
		})
	}
	if len(parts) < 100 {
		t.Errorf("only %d lists", len(parts))
	}
	spoil(reflect.ValueOf(&second).Elem())
	wantText(t, first, fullText)
	wantProgram(t, fullText, first)
}

func eachList(v reflect.Value, visit func(l reflect.Value)) {
	switch v.Kind() {
	case reflect.Struct:
		for i := range v.NumField() {
			eachList(v.Field(i), visit)
		}
	case reflect.Slice:
		visit(v)
		for i := range v.Len() {
			eachList(v.Index(i), visit)
		}
	}
}

func TestWordsAreApart(t *testing.T) {
	for _, e := range []api.Expr{null(), number(1), variable("a"), one(), chain(16, created(1))} {
		e := roomy(e)
		before := show(e)
		first, second := parse.Expr(e), parse.Expr(e)
		want := strings.Join(first, " ")
		for i := range second[:cap(second)] {
			second[:cap(second)][i] = "spoiled"
		}
		if show(e) != before || strings.Join(first, " ") != want || strings.Join(parse.Expr(e), " ") != want {
			t.Errorf("with a result something else changes for %s", brief(e))
		}
		spoil(reflect.ValueOf(&e).Elem())
		if strings.Join(first, " ") != want {
			t.Errorf("with the argument a result becomes %q", first)
		}
	}
}
