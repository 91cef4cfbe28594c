package heap_test

import (
	"fmt"
	"slices"
	"testing"

	"speculate/api"
	"speculate/heap"
)

func wantObject(t *testing.T, h api.Heap, id int64, want api.Object) {
	t.Helper()
	if o, ok := heap.Get(h, id); !ok || showObject(o) != showObject(want) {
		t.Errorf("Get(%.80s, %d) = %v, %v; want %v", show(h), id, o, ok, want)
	}
}

func wantNoObject(t *testing.T, h api.Heap, id int64) {
	t.Helper()
	if o, ok := heap.Get(h, id); ok || o.ID != 0 || len(o.Fields) != 0 {
		t.Errorf("Get(%.80s, %d) = %v, %v; want none", show(h), id, o, ok)
	}
}

func TestGet(t *testing.T) {
	h := of(numbered(1, 7), object(3, reference(1), number(least)), object(8), numbered(most, 4, 4, 4))
	for _, o := range h.Objects {
		wantObject(t, h, o.ID, o)
	}
	for _, id := range []int64{2, 4, 7, 9, most - 1, 0, -1, -3, least} {
		wantNoObject(t, h, id)
	}
	long := object(2, make([]api.Value, 1000)...)
	wantObject(t, of(long), 2, long)
}

func TestGetOfEmptyHeap(t *testing.T) {
	for _, h := range []api.Heap{{}, {Objects: []api.Object{}}} {
		for _, id := range []int64{0, 1, -1, most, least} {
			wantNoObject(t, h, id)
		}
	}
}

func TestGetNilAndEmpty(t *testing.T) {
	h := of(api.Object{ID: 1}, api.Object{ID: 2, Fields: []api.Value{}})
	wantObject(t, h, 1, object(1))
	wantObject(t, h, 2, object(2))
}

func TestGetFirst(t *testing.T) {
	wantObject(t, of(numbered(5, 1), numbered(5, 2)), 5, numbered(5, 1))
	wantObject(t, of(numbered(5), numbered(5, 2)), 5, numbered(5))
	wantObject(t, of(numbered(2), numbered(5, 1), numbered(5, 2), numbered(5, 3), numbered(7)), 5, numbered(5, 1))
	wantObject(t, of(numbered(5, 3), numbered(2, 4), numbered(5, 1)), 5, numbered(5, 3))
}

func TestGetOfNotValid(t *testing.T) {
	h := of(numbered(9, 1), numbered(4, 2), numbered(0, 3), numbered(6, 4), numbered(-2, 5), numbered(least, 6), numbered(most, 7), numbered(1, 8))
	for _, o := range h.Objects {
		wantObject(t, h, o.ID, o)
	}
	for _, id := range []int64{-1, 2, 3, 5, 7, 8, 10, least + 1, most - 1} {
		wantNoObject(t, h, id)
	}
}

func TestGetEveryHeap(t *testing.T) {
	everyHeap(func(h api.Heap) {
		for id := int64(-2); id <= 4; id++ {
			at := slices.IndexFunc(h.Objects, func(o api.Object) bool { return o.ID == id })
			if at < 0 {
				wantNoObject(t, h, id)
			} else {
				wantObject(t, h, id, h.Objects[at])
			}
		}
	})
}

func wantPut(t *testing.T, h api.Heap, o api.Object, want api.Heap) {
	t.Helper()
	wantHeap(t, fmt.Sprintf("Put(%.80s, %.40v)", show(h), o), heap.Put(h, o), want)
}

func TestPut(t *testing.T) {
	a, b, c := numbered(2, 7), numbered(5, 8, 9), numbered(most, 3)
	h := of(a, b, c)
	wantPut(t, h, numbered(1, 4), of(numbered(1, 4), a, b, c))
	wantPut(t, h, numbered(3, 4), of(a, numbered(3, 4), b, c))
	wantPut(t, h, numbered(4), of(a, numbered(4), b, c))
	wantPut(t, h, numbered(6, 1, 2), of(a, b, numbered(6, 1, 2), c))
	wantPut(t, of(a, b), numbered(6, 1, 2), of(a, b, numbered(6, 1, 2)))
	wantPut(t, of(a, b), c, h)
}

func TestPutInPlace(t *testing.T) {
	a, b, c := numbered(2, 7), numbered(5, 8, 9), numbered(9, 3)
	h := of(a, b, c)
	wantPut(t, h, numbered(2, 4, 4, 4), of(numbered(2, 4, 4, 4), b, c))
	wantPut(t, h, numbered(5), of(a, numbered(5), c))
	wantPut(t, h, numbered(5, 1), of(a, numbered(5, 1), c))
	wantPut(t, h, object(9, reference(9)), of(a, b, object(9, reference(9))))
	wantPut(t, h, b, h)
	wantPut(t, of(b), numbered(5, 6), of(numbered(5, 6)))
}

func TestPutIntoEmptyHeap(t *testing.T) {
	for _, h := range []api.Heap{{}, {Objects: []api.Object{}}} {
		for _, o := range []api.Object{{}, {ID: 3}, {ID: 3, Fields: []api.Value{}}, numbered(1, 2), numbered(-1, 2), numbered(least), numbered(most)} {
			wantPut(t, h, o, of(o))
		}
	}
}

func TestPutNilAndEmpty(t *testing.T) {
	null, empty := api.Object{ID: 2}, api.Object{ID: 2, Fields: []api.Value{}}
	for _, o := range []api.Object{null, empty} {
		wantPut(t, of(numbered(2, 7), empty, null), o, of(o, empty, null))
		wantPut(t, of(api.Object{ID: 1, Fields: []api.Value{}}, api.Object{ID: 3}), o, of(object(1), o, object(3)))
	}
}

func TestPutFirst(t *testing.T) {
	a, b := numbered(5, 8, 9), numbered(5, 1)
	wantPut(t, of(a, b), numbered(5, 4), of(numbered(5, 4), b))
	wantPut(t, of(numbered(2), a, b, b, numbered(7)), numbered(5, 4), of(numbered(2), numbered(5, 4), b, b, numbered(7)))
	wantPut(t, of(a, b), numbered(4), of(numbered(4), a, b))
	wantPut(t, of(a, b), numbered(6), of(a, b, numbered(6)))
}

// TestPutIntoNotValid checks that the place of the identifier counts before that of a greater one, wherever it is, and of the greater ones the first.
func TestPutIntoNotValid(t *testing.T) {
	h := of(numbered(4, 1), numbered(9, 2), numbered(6, 3), numbered(1, 4), numbered(-3, 5), numbered(0, 6))
	replaced := func(at int, o api.Object) api.Heap {
		l := slices.Clone(h.Objects)
		l[at] = o
		return of(l...)
	}
	for at, o := range h.Objects {
		with := numbered(o.ID, 50, 51)
		wantPut(t, h, with, replaced(at, with))
	}
	for id, at := range map[int64]int{10: 6, most: 6, 8: 1, 7: 1, 5: 1, 3: 0, 2: 0, -1: 0, -4: 0, least: 0} {
		o := numbered(id, 50)
		wantPut(t, h, o, of(slices.Insert(slices.Clone(h.Objects), at, o)...))
	}
	wantPut(t, bare(3, 2, 1), numbered(1, 7), of(object(3), object(2), numbered(1, 7)))
	wantPut(t, bare(3, 1, 4), numbered(2, 7), of(numbered(2, 7), object(3), object(1), object(4)))
	wantPut(t, bare(1, 5, 2, 5), numbered(3, 7), of(object(1), numbered(3, 7), object(5), object(2), object(5)))
	wantPut(t, bare(-5, 0), numbered(-2, 7), of(object(-5), numbered(-2, 7), object(0)))
	wantPut(t, bare(least, most), numbered(0, 7), of(object(least), numbered(0, 7), object(most)))
}

func TestPutEveryHeap(t *testing.T) {
	everyHeap(func(h api.Heap) {
		for id := int64(-2); id <= 4; id++ {
			o := numbered(id, 90, 91)
			want := slices.Clone(h.Objects)
			if at := slices.IndexFunc(want, func(old api.Object) bool { return old.ID == id }); at >= 0 {
				want[at] = o
			} else if at := slices.IndexFunc(want, func(old api.Object) bool { return old.ID > id }); at >= 0 {
				want = slices.Insert(want, at, o)
			} else {
				want = append(want, o)
			}
			wantPut(t, h, o, of(want...))
		}
	})
}

// TestPutKeepsValid checks that a valid heap stays valid with every object of a valid identifier, in whichever order they come.
func TestPutKeepsValid(t *testing.T) {
	h := api.Heap{}
	id := int64(1)
	for range 200 {
		id = id * 71 % 103
		h = heap.Put(h, numbered(id, id))
		if !heap.Valid(h) {
			t.Fatalf("not valid with %d: %s", id, show(h))
		}
		wantObject(t, h, id, numbered(id, id))
	}
	if want := 102; len(h.Objects) != want {
		t.Errorf("%d objects, want %d", len(h.Objects), want)
	}
}

func TestGetAfterPut(t *testing.T) {
	everyHeap(func(h api.Heap) {
		for id := int64(-2); id <= 4; id++ {
			after := heap.Put(h, numbered(id, 90))
			wantObject(t, after, id, numbered(id, 90))
			for other := int64(-2); other <= 4; other++ {
				before, ok := heap.Get(h, other)
				if now, still := heap.Get(after, other); other != id && (still != ok || showObject(now) != showObject(before)) {
					t.Errorf("Put(%s, %d): Get of %d was %v, %v and is %v, %v", show(h), id, other, before, ok, now, still)
				}
			}
		}
	})
}
