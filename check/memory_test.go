package check_test

import (
	"fmt"
	"reflect"
	"testing"

	"speculate/api"
	"speculate/check"
	"speculate/source"
)

// copied returns a copy of a tree all of whose lists are new and none of them nil.
func copied[T any](tree T) T {
	result := reflect.New(reflect.TypeOf(tree)).Elem()
	copyTo(result, reflect.ValueOf(tree), 0)
	return result.Interface().(T)
}

// roomy returns a copy of a tree all of whose lists have something beyond their lengths.
func roomy[T any](tree T) T {
	result := reflect.New(reflect.TypeOf(tree)).Elem()
	copyTo(result, reflect.ValueOf(tree), 3)
	return result.Interface().(T)
}

func copyTo(to, from reflect.Value, room int) {
	switch from.Kind() {
	case reflect.Struct:
		for i := range from.NumField() {
			copyTo(to.Field(i), from.Field(i), room)
		}
	case reflect.Slice:
		all := reflect.MakeSlice(from.Type(), from.Len()+room, from.Len()+room)
		for i := range all.Len() {
			if i < from.Len() {
				copyTo(all.Index(i), from.Index(i), room)
			} else {
				fill(all.Index(i))
			}
		}
		to.Set(all.Slice(0, from.Len()))
	default:
		to.Set(from)
	}
}

// fill gives every field of what lies beyond a list a value that would be seen.
func fill(v reflect.Value) {
	switch v.Kind() {
	case reflect.Struct:
		for i := range v.NumField() {
			fill(v.Field(i))
		}
	case reflect.Slice:
	case reflect.String:
		v.SetString("main")
	default:
		v.SetInt(3)
	}
}

// show shows a tree with all that lies beyond the lengths of its lists.
func show(v reflect.Value) string {
	switch v.Kind() {
	case reflect.Struct:
		s := "{"
		for i := range v.NumField() {
			s += show(v.Field(i)) + " "
		}
		return s + "}"
	case reflect.Slice:
		s := fmt.Sprint(v.Len(), " of ", v.Cap(), "[")
		for i := range v.Cap() {
			s += show(v.Slice(0, v.Cap()).Index(i)) + " "
		}
		return s + "]"
	}
	return fmt.Sprint(v)
}

// someTrees are programs with each error and without one.
func someTrees(t *testing.T) []api.Program {
	t.Helper()
	l := []api.Program{{}, named("", "A"), named("f", "f"), named("main", "f"), program(t, fullText), {Funcs: []api.Func{{Name: "f", Body: many(70, deep(1))}}}}
	for _, s := range wrongStmts() {
		l = append(l, api.Program{Funcs: []api.Func{{Name: "f", Body: []api.Stmt{s}}}})
	}
	for _, f := range faults() {
		for at := range 4 {
			drafts, _ := faulty(f, at)
			l = append(l, program(t, written(drafts...)))
		}
	}
	return l
}

func TestRoomy(t *testing.T) {
	p := program(t, fullText)
	q := roomy(p)
	if !source.Same(p, q) || !source.Same(p, copied(p)) || show(reflect.ValueOf(p)) == show(reflect.ValueOf(q)) {
		t.Error("roomy is wrong")
	}
}

// TestArgumentsAreKept checks that no argument is changed, not even beyond the lengths of its lists. The results are numbers, which share no memory with anything.
func TestArgumentsAreKept(t *testing.T) {
	for _, p := range someTrees(t) {
		q := roomy(p)
		before := show(reflect.ValueOf(q))
		check.Check(q)
		for _, name := range []string{"", "main", "f", "nowhere"} {
			check.Index(q, name)
		}
		if show(reflect.ValueOf(q)) != before {
			t.Errorf("the argument became %s", brief(q))
		}
	}
}

// TestBeyondTheLengths checks that what lies beyond the lengths of lists is no part of a program, and that nil and empty lists are the same.
func TestBeyondTheLengths(t *testing.T) {
	for _, p := range someTrees(t) {
		at, e := plainCheck(p)
		wantCheck(t, p, at, e)
		wantCheck(t, roomy(p), at, e)
		wantCheck(t, copied(p), at, e)
		for _, name := range []string{"", "main", "f", "nowhere"} {
			wantIndex(t, roomy(p), name, check.Index(p, name))
		}
	}
}

// TestSameCallsSameResults checks that results depend on nothing but the arguments, nor on other calls.
func TestSameCallsSameResults(t *testing.T) {
	trees := someTrees(t)
	for range 3 {
		for _, p := range trees {
			wantPlain(t, p)
		}
	}
}

// TestApart checks that nothing is kept of an argument that is changed later.
func TestApart(t *testing.T) {
	p := program(t, fullText)
	wantCheck(t, p, 0, api.OK)
	wantIndex(t, p, "g", 1)
	p.Funcs[1].Name = "h"
	wantIndex(t, p, "g", -1)
	wantCheck(t, p, 0, api.ErrUndefined)
	p.Funcs[1].Name = "g"
	wantCheck(t, p, 0, api.OK)
}
