package heap_test

import (
	"fmt"
	"math"
	"slices"
	"testing"

	"speculate/api"
	"speculate/heap"
)

func wantCell(t *testing.T, h api.Heap, id int64, field int, want api.Value) {
	t.Helper()
	if v, ok := heap.Read(h, id, field); !ok || v != want {
		t.Errorf("Read(%.80s, %d, %d) = %v, %v; want %v", show(h), id, field, v, ok, want)
	}
}

// wantNoCell checks that a cell can neither be read nor be written.
func wantNoCell(t *testing.T, h api.Heap, id int64, field int) {
	t.Helper()
	if v, ok := heap.Read(h, id, field); ok || v != (api.Value{}) {
		t.Errorf("Read(%.80s, %d, %d) = %v, %v; want none", show(h), id, field, v, ok)
	}
	if result, ok := heap.Write(h, id, field, number(1)); ok || len(result.Objects) != 0 {
		t.Errorf("Write(%.80s, %d, %d) = %.80s, %v; want none", show(h), id, field, show(result), ok)
	}
}

func wantWrite(t *testing.T, h api.Heap, id int64, field int, v api.Value, want api.Heap) {
	t.Helper()
	result, ok := heap.Write(h, id, field, v)
	if !ok {
		t.Errorf("Write(%.80s, %d, %d) finds no cell", show(h), id, field)
	}
	wantHeap(t, fmt.Sprintf("Write(%.80s, %d, %d, %v)", show(h), id, field, v), result, want)
}

func TestRead(t *testing.T) {
	h := of(numbered(2, 7), object(5, number(least), reference(2), reference(0)), numbered(most, 4))
	wantCell(t, h, 2, 0, number(7))
	wantCell(t, h, 5, 0, number(least))
	wantCell(t, h, 5, 1, reference(2))
	wantCell(t, h, 5, 2, reference(0))
	wantCell(t, h, most, 0, number(4))
}

// TestExample is the chapter's example.
func TestExample(t *testing.T) {
	h := of(object(5, number(0), number(0)))
	for field := -1; field <= 2; field++ {
		if field == 0 || field == 1 {
			wantCell(t, h, 5, field, number(0))
		} else {
			wantNoCell(t, h, 5, field)
		}
	}
}

func TestReadLongObject(t *testing.T) {
	o := api.Object{ID: 1}
	for n := range int64(1000) {
		o.Fields = append(o.Fields, number(n))
	}
	for _, field := range []int{0, 1, api.MaxFields - 1, api.MaxFields, api.MaxFrame, 999} {
		wantCell(t, of(o), 1, field, number(int64(field)))
	}
	wantNoCell(t, of(o), 1, 1000)
}

func TestNoCell(t *testing.T) {
	h := of(numbered(2, 7), numbered(5, 8, 9), object(6), api.Object{ID: 7, Fields: []api.Value{}}, numbered(8, 1, 2, 3))
	for _, field := range []int{0, 1, 2, -1, math.MaxInt, math.MinInt} {
		for _, id := range []int64{0, 1, 3, 9, -2, -5, most, least} {
			wantNoCell(t, h, id, field)
		}
		// These objects have no fields.
		wantNoCell(t, h, 6, field)
		wantNoCell(t, h, 7, field)
		wantNoCell(t, api.Heap{}, 1, field)
		wantNoCell(t, api.Heap{}, 0, field)
		wantNoCell(t, api.Heap{Objects: []api.Object{}}, 1, field)
	}
	for _, field := range []int{-1, -2, math.MinInt, math.MinInt32, 2, 3, 1 << 16, 1 << 32, math.MaxInt32, math.MaxInt} {
		wantNoCell(t, h, 5, field)
	}
	wantNoCell(t, h, 2, 1)
	wantNoCell(t, h, 8, 3)
}

func TestWrite(t *testing.T) {
	h := of(numbered(2, 7), numbered(5, 8, 9, 10), object(6))
	wantWrite(t, h, 2, 0, number(1), of(numbered(2, 1), numbered(5, 8, 9, 10), object(6)))
	wantWrite(t, h, 5, 0, number(least), of(numbered(2, 7), numbered(5, least, 9, 10), object(6)))
	wantWrite(t, h, 5, 1, reference(77), of(numbered(2, 7), object(5, number(8), reference(77), number(10)), object(6)))
	wantWrite(t, h, 5, 2, reference(0), of(numbered(2, 7), object(5, number(8), number(9), reference(0)), object(6)))
	wantWrite(t, h, 5, 1, number(9), h)
	wantWrite(t, of(object(5, reference(2))), 5, 0, number(2), of(numbered(5, 2)))
}

// TestFirstObjectHasTheCells checks that the cells of an identifier are those of its first object alone, even if a later one has more fields.
func TestFirstObjectHasTheCells(t *testing.T) {
	h := of(numbered(5, 1), numbered(5, 2, 3), object(2), numbered(2, 4))
	wantCell(t, h, 5, 0, number(1))
	wantWrite(t, h, 5, 0, number(9), of(numbered(5, 9), numbered(5, 2, 3), object(2), numbered(2, 4)))
	wantNoCell(t, h, 5, 1)
	wantNoCell(t, h, 2, 0)
}

func TestCellsOfNotValid(t *testing.T) {
	h := of(numbered(9, 1), numbered(4, 2), numbered(0, 3), numbered(-2, 5), numbered(least, 6))
	for i, o := range h.Objects {
		wantCell(t, h, o.ID, 0, o.Fields[0])
		want := slices.Clone(h.Objects)
		want[i] = numbered(o.ID, 50)
		wantWrite(t, h, o.ID, 0, number(50), of(want...))
		wantNoCell(t, h, o.ID, 1)
		wantNoCell(t, h, o.ID, -1)
	}
	wantNoCell(t, h, 5, 0)
	wantNoCell(t, h, -1, 0)
}

func TestReadEveryHeap(t *testing.T) {
	everyHeap(func(h api.Heap) {
		for id := int64(-2); id <= 4; id++ {
			o, _ := heap.Get(h, id)
			for field := -1; field <= 4; field++ {
				if field >= 0 && field < len(o.Fields) {
					wantCell(t, h, id, field, o.Fields[field])
				} else {
					wantNoCell(t, h, id, field)
				}
			}
		}
	})
}

// TestReadAfterWrite checks that Read returns what was written, and that no other cell changes, nor an object behind another one with its identifier.
func TestReadAfterWrite(t *testing.T) {
	everyHeap(func(h api.Heap) {
		for i, o := range h.Objects {
			if slices.IndexFunc(h.Objects, func(other api.Object) bool { return other.ID == o.ID }) < i {
				continue
			}
			for field := range o.Fields {
				for _, v := range []api.Value{number(-1), reference(o.Fields[field].N), {}} {
					want := withCell(h, i, field, v)
					wantWrite(t, h, o.ID, field, v, want)
					after, _ := heap.Write(h, o.ID, field, v)
					wantCell(t, after, o.ID, field, v)
				}
			}
		}
	})
}

func withCell(h api.Heap, at, field int, v api.Value) api.Heap {
	result := api.Heap{}
	for i, o := range h.Objects {
		fields := slices.Clone(o.Fields)
		if i == at {
			fields[field] = v
		}
		result.Objects = append(result.Objects, object(o.ID, fields...))
	}
	return result
}
