package heap_test

import (
	"fmt"
	"testing"

	"speculate/api"
	"speculate/heap"
)

// roomy makes a heap all of whose lists have something beyond their lengths.
func roomy() api.Heap {
	var l []api.Object
	for _, id := range []int64{2, 5, 5, 9, 4, 77, 78} {
		o := numbered(id, 10*id, 10*id+1, 10*id+2, 10*id+3)
		o.Fields = o.Fields[:2]
		l = append(l, o)
	}
	l[3].Fields = l[3].Fields[:0]
	return api.Heap{Objects: l[:5]}
}

func roomyObject(id int64) api.Object {
	o := numbered(id, 80, 81, 82, 83)
	o.Fields = o.Fields[:2]
	return o
}

// whole shows a heap with all that lies beyond the lengths of its lists.
func whole(h api.Heap) string {
	s := fmt.Sprintln(len(h.Objects), cap(h.Objects))
	for _, o := range h.Objects[:cap(h.Objects)] {
		s += wholeObject(o)
	}
	return s
}

func wholeObject(o api.Object) string {
	return fmt.Sprintln(o.ID, len(o.Fields), cap(o.Fields), o.Fields[:cap(o.Fields)])
}

// spoil changes every cell of a heap, and all that lies beyond the lengths of its lists.
func spoil(h api.Heap) {
	l := h.Objects[:cap(h.Objects)]
	for i := range l {
		spoilObject(l[i])
		l[i] = numbered(-999, -999)
	}
}

func spoilObject(o api.Object) {
	for i := range o.Fields[:cap(o.Fields)] {
		o.Fields[:cap(o.Fields)][i] = reference(-999)
	}
}

// heapCalls are calls that return a heap, for each way through Put and Write.
func heapCalls() map[string]func(h api.Heap, o api.Object) api.Heap {
	put := func(id int64) func(h api.Heap, o api.Object) api.Heap {
		return func(h api.Heap, o api.Object) api.Heap {
			o.ID = id
			return heap.Put(h, o)
		}
	}
	write := func(id int64, field int) func(h api.Heap, o api.Object) api.Heap {
		return func(h api.Heap, o api.Object) api.Heap {
			result, _ := heap.Write(h, id, field, number(-4))
			return result
		}
	}
	return map[string]func(h api.Heap, o api.Object) api.Heap{
		"Put before all": put(1), "Put between two": put(3), "Put behind all": put(10),
		"Put in the first place": put(2), "Put in a place": put(5), "Put in the last place": put(4),
		"Write the first field": write(2, 0), "Write the last field": write(5, 1),
		"Write no field": write(5, 2), "Write below 0": write(5, -1), "Write no object": write(6, 0), "Write beyond the heap": write(77, 0),
	}
}

func TestHeapsKeepTheirArguments(t *testing.T) {
	for name, call := range heapCalls() {
		h, o := roomy(), roomyObject(5)
		call(h, o)
		if whole(h) != whole(roomy()) {
			t.Errorf("%s: the heap became %s", name, whole(h))
		}
		if wholeObject(o) != wholeObject(roomyObject(5)) {
			t.Errorf("%s: the object became %s", name, wholeObject(o))
		}
	}
}

func TestHeapsAreNewMemory(t *testing.T) {
	for name, call := range heapCalls() {
		h, o := roomy(), roomyObject(5)
		result := call(h, o)
		before := show(result)
		spoil(h)
		spoilObject(o)
		if show(result) != before {
			t.Errorf("%s: with its arguments the result changes from %s to %s", name, before, show(result))
		}
		h, o = roomy(), roomyObject(5)
		spoil(call(h, o))
		if whole(h) != whole(roomy()) || wholeObject(o) != wholeObject(roomyObject(5)) {
			t.Errorf("%s: with the result the arguments change to %s and %s", name, whole(h), wholeObject(o))
		}
	}
}

// TestResultsListsAreApart checks that a result's lists share no memory with one another, what lies beyond their lengths included.
func TestResultsListsAreApart(t *testing.T) {
	for name, call := range heapCalls() {
		for at := range call(roomy(), roomyObject(5)).Objects {
			result := call(roomy(), roomyObject(5))
			want := fmt.Sprint(result.Objects[:at], result.Objects[at+1:])
			spoilObject(result.Objects[at])
			if got := fmt.Sprint(result.Objects[:at], result.Objects[at+1:]); got != want {
				t.Errorf("%s: with the fields of object %d the others change from %s to %s", name, at, want, got)
			}
		}
	}
}

func TestGetIsApart(t *testing.T) {
	for _, id := range []int64{2, 5, 9, 4, 6, 77} {
		h := roomy()
		o, _ := heap.Get(h, id)
		before := showObject(o)
		if whole(h) != whole(roomy()) {
			t.Errorf("Get of %d: the heap became %s", id, whole(h))
		}
		spoil(h)
		if showObject(o) != before {
			t.Errorf("Get of %d: with the heap the object changes from %s to %s", id, before, showObject(o))
		}
		h = roomy()
		o, _ = heap.Get(h, id)
		spoilObject(o)
		if whole(h) != whole(roomy()) {
			t.Errorf("Get of %d: with the object the heap changes to %s", id, whole(h))
		}
	}
}

func TestQuestionsKeepTheirArguments(t *testing.T) {
	a, b := roomy(), roomy()
	heap.Valid(a)
	heap.Same(a, b)
	for _, id := range []int64{2, 5, 6, 77} {
		for field := -1; field <= 3; field++ {
			heap.Read(a, id, field)
		}
	}
	for _, h := range []api.Heap{a, b} {
		if whole(h) != whole(roomy()) {
			t.Errorf("the heap became %s", whole(h))
		}
	}
}

// TestBeyondTheLengths checks that what lies beyond the length of a list is no part of a heap.
func TestBeyondTheLengths(t *testing.T) {
	h := roomy()
	wantNoObject(t, h, 77)
	wantNoCell(t, h, 78, 0)
	wantNoCell(t, h, 5, 2)
	wantNoCell(t, h, 9, 0)
	other := roomy()
	spoil(api.Heap{Objects: other.Objects[5:7]})
	wantSame(t, h, other, true)
}
