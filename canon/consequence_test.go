package canon_test

import (
	"slices"
	"testing"

	"speculate/api"
	"speculate/canon"
	"speculate/heap"
)

// wantSameCanon checks that two heaps with roots have the same normal form.
func wantSameCanon(t *testing.T, a api.Heap, roots []api.Value, b api.Heap, others []api.Value) {
	t.Helper()
	x, now := canon.Canon(a, roots)
	y, also := canon.Canon(b, others)
	if !heap.Same(x, y) || !slices.Equal(now, also) {
		t.Fatalf("Canon(%v, %v) = %v, %v, and Canon(%v, %v) = %v, %v", a, roots, x, now, b, others, y, also)
	}
}

func TestCanonOfCanon(t *testing.T) {
	everyCase(func(h api.Heap, roots []api.Value) {
		x, now := canon.Canon(h, roots)
		if !heap.Valid(x) {
			t.Fatalf("Canon(%v, %v) = %v, which is not valid", h, roots, x)
		}
		y, again := canon.Canon(x, now)
		if !heap.Same(x, y) || !slices.Equal(now, again) {
			t.Fatalf("Canon(%v, %v) = %v, %v, and again %v, %v", h, roots, x, now, y, again)
		}
		for i, id := range canon.Reach(x, now) {
			if id != int64(i+1) {
				t.Fatalf("Reach(%v, %v) = %v", x, now, canon.Reach(x, now))
			}
		}
	})
}

// renamings give every identifier another one, and no two the same.
func renamings() []func(id int64) int64 {
	return []func(id int64) int64{
		func(id int64) int64 { return -id },
		func(id int64) int64 { return id + 10 },
		func(id int64) int64 { return 100 - 7*id },
		func(id int64) int64 { return id * 0x9e3779b97f4a7c1 },
	}
}

func withNames(values []api.Value, name func(id int64) int64) []api.Value {
	l := slices.Clone(values)
	for i, v := range l {
		if v.Ref {
			l[i].N = name(v.N)
		}
	}
	return l
}

func TestIdentifiersDoNotMatter(t *testing.T) {
	everyCase(func(h api.Heap, roots []api.Value) {
		for _, name := range renamings() {
			other := api.Heap{}
			for _, o := range h.Objects {
				other.Objects = append(other.Objects, object(name(o.ID), withNames(o.Fields, name)...))
			}
			others := withNames(roots, name)
			wantSameCanon(t, h, roots, other, others)
			// The order of the objects is that of the new identifiers.
			wantSameCanon(t, h, roots, sorted(other), others)
		}
	})
}

func TestUnreachableObjectsDoNotMatter(t *testing.T) {
	everyCase(func(h api.Heap, roots []api.Value) {
		found := canon.Reach(h, roots)
		less := slices.DeleteFunc(slices.Clone(h.Objects), func(o api.Object) bool { return !slices.Contains(found, o.ID) })
		wantSameCanon(t, h, roots, of(less...), roots)
		// No case has the object 100 or -100.
		more := object(100, references(append(found, 100, -100)...)...)
		wantSameCanon(t, h, roots, of(append(slices.Clone(h.Objects), more)...), roots)
		wantSameCanon(t, h, roots, of(append([]api.Object{linked(-100, 100), more}, h.Objects...)...), roots)
		var again []api.Object
		for _, id := range found {
			again = append(again, linked(id, found...))
		}
		wantSameCanon(t, h, roots, of(append(slices.Clone(h.Objects), again...)...), roots)
	})
}

// TestOtherHeapsHaveOtherForms checks that heaps that differ in more than identifiers keep apart.
func TestOtherHeapsHaveOtherForms(t *testing.T) {
	roots := references(2)
	x, _ := canon.Canon(of(linked(2, 3), object(3, number(1))), roots)
	for _, other := range []api.Heap{
		{}, of(linked(2)), of(linked(2, 0)), of(linked(2, 2)), of(linked(2, 3)), of(linked(2, 3), object(3)), of(linked(2, 3), linked(3, 1)), of(linked(2, 3), linked(3, 3)),
		of(linked(2, 3), object(3, number(2))), of(linked(2, 3), object(3, number(1), number(1))), of(linked(2, 3, 3), object(3, number(1))),
		of(object(2, number(3)), object(3, number(1))), of(object(2, number(1)), linked(3, 2)),
	} {
		if y, _ := canon.Canon(other, roots); heap.Same(x, y) {
			t.Errorf("Canon(%v) = %v, too", other, y)
		}
	}
}
