package heap_test

import (
	"fmt"
	"math"
	"testing"

	"speculate/api"
)

const (
	least = math.MinInt64
	most  = math.MaxInt64
)

func number(n int64) api.Value    { return api.Value{N: n} }
func reference(n int64) api.Value { return api.Value{Ref: true, N: n} }

func object(id int64, fields ...api.Value) api.Object {
	return api.Object{ID: id, Fields: fields}
}

// numbered makes an object whose fields are numbers.
func numbered(id int64, fields ...int64) api.Object {
	o := api.Object{ID: id}
	for _, n := range fields {
		o.Fields = append(o.Fields, number(n))
	}
	return o
}

func of(objects ...api.Object) api.Heap { return api.Heap{Objects: objects} }

// bare makes a heap of objects without fields.
func bare(ids ...int64) api.Heap {
	h := api.Heap{}
	for _, id := range ids {
		h.Objects = append(h.Objects, object(id))
	}
	return h
}

// show writes a heap as a text, which is the same for nil and empty lists and differs for all other heaps.
func show(h api.Heap) string { return fmt.Sprint(h.Objects) }

func showObject(o api.Object) string { return fmt.Sprint(o) }

func wantHeap(t *testing.T, what string, got, want api.Heap) {
	t.Helper()
	if show(got) != show(want) {
		t.Errorf("%s = %s, want %s", what, show(got), show(want))
	}
}

// everyHeap goes through the heaps of at most four objects with identifiers from -1 to 3, in all orders. The objects have up to three fields, no two of which are equal.
func everyHeap(visit func(h api.Heap)) {
	var grow func(ids []int64)
	grow = func(ids []int64) {
		visit(withFields(ids))
		if len(ids) == 4 {
			return
		}
		for id := int64(-1); id <= 3; id++ {
			grow(append(ids[:len(ids):len(ids)], id))
		}
	}
	grow(nil)
}

func withFields(ids []int64) api.Heap {
	h := api.Heap{}
	for i, id := range ids {
		o := object(id)
		for field := range (i + 2) % 4 {
			n := int64(10*i + field)
			o.Fields = append(o.Fields, api.Value{Ref: field == 1, N: n})
		}
		h.Objects = append(h.Objects, o)
	}
	return h
}

func TestEveryHeapDiffers(t *testing.T) {
	seen := map[string]bool{}
	everyHeap(func(h api.Heap) { seen[show(h)] = true })
	if want := 1 + 5 + 25 + 125 + 625; len(seen) != want {
		t.Errorf("%d heaps, want %d", len(seen), want)
	}
}
