package heap_test

import (
	"testing"

	"speculate/api"
	"speculate/heap"
)

func TestValid(t *testing.T) {
	for _, h := range []api.Heap{
		{}, {Objects: []api.Object{}}, bare(1), bare(2), bare(most), bare(1, 2), bare(1, 2, 3), bare(1, 5, 1000), bare(most-1, most), bare(1, most),
		of(numbered(1, 7), numbered(2), numbered(9, 8, 8)),
		// Neither the number of fields nor what they refer to counts.
		of(object(3, make([]api.Value, 1000)...), object(4, reference(77), reference(-1), reference(0), number(least))),
	} {
		if !heap.Valid(h) {
			t.Errorf("Valid(%.80s) is false", show(h))
		}
	}
}

func TestNotValid(t *testing.T) {
	for _, h := range []api.Heap{
		bare(0), bare(-1), bare(least), bare(0, 1), bare(-1, 1), bare(-2, -1), bare(least, most), bare(1, 0), bare(2, -1, 3),
		bare(1, 1), bare(5, 5), bare(most, most), bare(1, 2, 2), bare(1, 1, 2), bare(1, 2, 2, 3),
		bare(2, 1), bare(3, 2, 1), bare(1, 3, 2), bare(2, 1, 3), bare(1, 2, 1), bare(most, 1), bare(most, least), bare(1, 2, 3, 0),
		of(numbered(2, 7), numbered(1, 8)), of(numbered(2, 7), numbered(2, 8)),
	} {
		if heap.Valid(h) {
			t.Errorf("Valid(%s) is true", show(h))
		}
	}
}

func TestValidEveryHeap(t *testing.T) {
	everyHeap(func(h api.Heap) {
		want := true
		for i, o := range h.Objects {
			want = want && o.ID >= 1
			for _, later := range h.Objects[i+1:] {
				want = want && o.ID < later.ID
			}
		}
		if heap.Valid(h) != want {
			t.Errorf("Valid(%s) is %v", show(h), !want)
		}
	})
}

func wantSame(t *testing.T, a, b api.Heap, want bool) {
	t.Helper()
	if heap.Same(a, b) != want || heap.Same(b, a) != want {
		t.Errorf("Same(%s, %s) is %v, the other way round %v; want %v", show(a), show(b), heap.Same(a, b), heap.Same(b, a), want)
	}
}

func TestSameOfEqualHeaps(t *testing.T) {
	for _, fresh := range []func() api.Heap{
		func() api.Heap { return bare() },
		func() api.Heap { return bare(1) },
		func() api.Heap { return of(numbered(1, 2), numbered(5)) },
		func() api.Heap { return of(object(3, reference(0), number(0), number(least), reference(3))) },
		// Heaps that are not valid are compared in the same way.
		func() api.Heap {
			return of(numbered(5, 1), numbered(2), numbered(5, 1), numbered(0), numbered(least, 7))
		},
	} {
		wantSame(t, fresh(), fresh(), true)
	}
}

func TestSameNilAndEmpty(t *testing.T) {
	null, empty := api.Object{ID: 2}, api.Object{ID: 2, Fields: []api.Value{}}
	wantSame(t, api.Heap{}, api.Heap{Objects: []api.Object{}}, true)
	wantSame(t, of(null), of(empty), true)
	wantSame(t, of(numbered(1, 4), null, empty), of(numbered(1, 4), empty, null), true)
	wantSame(t, of(null), of(numbered(2, 0)), false)
	wantSame(t, of(empty), of(numbered(2, 0)), false)
	wantSame(t, of(empty), api.Heap{}, false)
}

func TestSameOfOtherHeaps(t *testing.T) {
	h := of(numbered(1, 2, 3), numbered(5, 4))
	for _, other := range []api.Heap{
		{}, of(numbered(1, 2, 3)), of(numbered(5, 4)), of(numbered(1, 2, 3), numbered(5, 4), numbered(6)), of(numbered(1, 2, 3), numbered(5, 4), numbered(5, 4)),
		of(numbered(5, 4), numbered(1, 2, 3)), of(numbered(1, 4), numbered(5, 2, 3)),
		of(numbered(0, 2, 3), numbered(5, 4)), of(numbered(1, 2, 3), numbered(6, 4)), of(numbered(-1, 2, 3), numbered(5, 4)),
		of(numbered(1, 3, 2), numbered(5, 4)), of(numbered(1, 2), numbered(5, 4)), of(numbered(1, 2, 3, 0), numbered(5, 4)), of(numbered(1, 2, 3), numbered(5)),
		of(numbered(1, 2), numbered(5, 3, 4)), of(numbered(1, 2, 3), numbered(5, -4)), of(numbered(1, 0, 3), numbered(5, 4)), of(numbered(1, 2, 0), numbered(5, 4)),
		of(numbered(1, 2, 3), object(5, reference(4))), of(object(1, reference(2), number(3)), numbered(5, 4)),
	} {
		wantSame(t, h, other, false)
	}
	wantSame(t, of(numbered(1, 0)), of(object(1, reference(0))), false)
	wantSame(t, bare(1, 2), bare(2, 1), false)
}

func TestSameEveryTwoHeaps(t *testing.T) {
	var all []api.Heap
	everyHeap(func(h api.Heap) { all = append(all, h) })
	for i, a := range all {
		for j, b := range all {
			if heap.Same(a, b) != (i == j) {
				t.Fatalf("Same(%s, %s) is %v", show(a), show(b), i != j)
			}
		}
	}
}
