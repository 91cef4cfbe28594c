package source_test

import (
	"fmt"
	"reflect"
	"slices"
	"testing"

	"speculate/api"
	"speculate/source"
)

// roomy returns a copy of a tree all of whose lists have something beyond their lengths.
func roomy[T any](tree T) T {
	result := copied(tree, always)
	widen(reflect.ValueOf(&result).Elem())
	return result
}

func widen(v reflect.Value) {
	switch v.Kind() {
	case reflect.Struct:
		for i := range v.NumField() {
			widen(v.Field(i))
		}
	case reflect.Slice:
		for i := range v.Len() {
			widen(v.Index(i))
		}
		wide := reflect.MakeSlice(v.Type(), v.Len()+3, v.Len()+3)
		reflect.Copy(wide, v)
		for i := v.Len(); i < wide.Len(); i++ {
			mark(wide.Index(i))
		}
		v.Set(wide.Slice(0, v.Len()))
	}
}

// mark gives every field of what lies beyond a list a value that would be seen.
func mark(v reflect.Value) {
	switch v.Kind() {
	case reflect.Struct:
		for i := range v.NumField() {
			if v.Field(i).Kind() != reflect.Slice {
				mark(v.Field(i))
			}
		}
	case reflect.String:
		v.SetString("beyond")
	default:
		v.SetInt(3)
	}
}

// whole shows a tree with all that lies beyond the lengths of its lists.
func whole(v reflect.Value) string {
	switch v.Kind() {
	case reflect.Struct:
		s := "{"
		for i := range v.NumField() {
			s += whole(v.Field(i)) + " "
		}
		return s + "}"
	case reflect.Slice:
		s := fmt.Sprint(v.Len(), " of ", v.Cap(), "[")
		for i := range v.Cap() {
			s += whole(v.Slice(0, v.Cap()).Index(i)) + " "
		}
		return s + "]"
	}
	return fmt.Sprint(v)
}

func show(tree any) string { return whole(reflect.ValueOf(tree)) }

func someTrees() []api.Program {
	return []api.Program{{}, functions(2), program(plain()), fullProgram(), everythingSet(), of(withParams("a b a", assign("c", tree(9)))), program(assign("a", tree(17)))}
}

func TestRoomy(t *testing.T) {
	for _, p := range someTrees() {
		q := roomy(p)
		if !plainSame(p, q) || show(p) == show(q) || show(q) != show(roomy(p)) {
			t.Errorf("roomy is wrong for %v", p)
		}
	}
}

func TestArgumentsAreKept(t *testing.T) {
	for _, p := range someTrees() {
		a, b := roomy(p), roomy(p)
		before := show(a)
		source.Shaped(a)
		source.Same(a, b)
		for _, f := range a.Funcs {
			source.Vars(f)
			for _, s := range f.Body {
				for _, e := range s.Exprs {
					source.Reads(e)
				}
			}
		}
		if show(a) != before || show(b) != before {
			t.Errorf("the argument became %s", show(a))
		}
	}
}

// TestBeyondTheLengths checks that what lies beyond the lengths of lists is no part of a program.
func TestBeyondTheLengths(t *testing.T) {
	for _, p := range someTrees() {
		q := roomy(p)
		wantSame(t, p, q, true)
		wantShaped(t, q, source.Shaped(p))
		for i, f := range p.Funcs {
			wantVarList(t, q.Funcs[i], source.Vars(f))
			for j, s := range f.Body {
				for k, e := range s.Exprs {
					wantReads(t, q.Funcs[i].Body[j].Exprs[k], source.Reads(e)...)
				}
			}
		}
	}
}

// wantApart checks that a call's result shares no memory with what it was called with, nor with another result.
func wantApart(t *testing.T, arguments any, call func() []string) {
	t.Helper()
	before := show(arguments)
	first, second := call(), call()
	want := slices.Clone(first)
	for i := range second[:cap(second)] {
		second[:cap(second)][i] = "spoiled"
	}
	if show(arguments) != before {
		t.Errorf("with a result the arguments change to %s", show(arguments))
	}
	if !slices.Equal(first, want) || !slices.Equal(call(), want) {
		t.Errorf("with a result another one changes to %q", first)
	}
}

func TestVarsAreApart(t *testing.T) {
	for _, f := range []api.Func{withParams("a b c"), withParams("a"), withParams("a b", plain()), withParams("b a b", while(assign("d", null()))), function("f", plain()), {}} {
		f := roomy(f)
		wantApart(t, f, func() []string { return source.Vars(f) })
		l := source.Vars(f)
		want := slices.Clone(l)
		for i := range f.Params {
			f.Params[i] = "spoiled"
		}
		for i := range f.Body {
			f.Body[i] = assign("spoiled", null())
		}
		if !slices.Equal(l, want) {
			t.Errorf("with the argument the result changes to %q", l)
		}
	}
}

func TestReadsAreApart(t *testing.T) {
	for _, e := range []api.Expr{variable("a"), binary(api.OpAdd, variable("a"), variable("b")), tree(16), {Kind: api.EVar, Name: "a", L: exprs(variable("b"), variable("c"))}, {}} {
		e := roomy(e)
		wantApart(t, e, func() []string { return source.Reads(e) })
		l := source.Reads(e)
		want := slices.Clone(l)
		for i := range e.L {
			e.L[i] = variable("spoiled")
		}
		if !slices.Equal(l, want) {
			t.Errorf("with the argument the result changes to %q", l)
		}
	}
}
