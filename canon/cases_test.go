package canon_test

import (
	"cmp"
	"fmt"
	"math"
	"math/rand"
	"slices"
	"testing"

	"speculate/api"
	"speculate/canon"
	"speculate/heap"
)

const (
	least = math.MinInt64
	most  = math.MaxInt64
)

func number(n int64) api.Value    { return api.Value{N: n} }
func reference(n int64) api.Value { return api.Value{Ref: true, N: n} }

func references(ids ...int64) []api.Value {
	var l []api.Value
	for _, id := range ids {
		l = append(l, reference(id))
	}
	return l
}

func object(id int64, fields ...api.Value) api.Object { return api.Object{ID: id, Fields: fields} }

// linked makes an object whose fields are references.
func linked(id int64, to ...int64) api.Object { return object(id, references(to...)...) }

func of(objects ...api.Object) api.Heap { return api.Heap{Objects: objects} }

// wantReach checks what can be reached, and that Canon numbers it in this order.
func wantReach(t *testing.T, h api.Heap, roots []api.Value, want ...int64) {
	t.Helper()
	if l := canon.Reach(h, roots); !slices.Equal(l, want) {
		t.Errorf("Reach(%.80v, %.80v) = %.80v, want %.80v", h, roots, l, want)
	}
	wantCanon(t, h, roots, withNumbers(h, want), numbered(roots, want))
}

func wantCanon(t *testing.T, h api.Heap, roots []api.Value, want api.Heap, now []api.Value) {
	t.Helper()
	if x, l := canon.Canon(h, roots); !heap.Same(x, want) || !slices.Equal(l, now) {
		t.Errorf("Canon(%.80v, %.80v) = %.80v, %.80v; want %.80v, %.80v", h, roots, x, l, want, now)
	}
}

// plainReach reads P4.1 as an equation, which it solves by steps: what can be reached is what the roots refer to, then what its own fields refer to, each once.
func plainReach(h api.Heap, roots []api.Value) []int64 {
	var found []int64
	for {
		next := foundIn(h, nil, roots)
		for _, id := range found {
			o, _ := heap.Get(h, id)
			next = foundIn(h, next, o.Fields)
		}
		if slices.Equal(next, found) {
			return found
		}
		found = next
	}
}

// foundIn appends the objects that values refer to.
func foundIn(h api.Heap, l []int64, values []api.Value) []int64 {
	for _, v := range values {
		if _, ok := heap.Get(h, v.N); ok && v.Ref && !slices.Contains(l, v.N) {
			l = append(l, v.N)
		}
	}
	return l
}

// withNumbers reads P4.2: the objects that are listed, with their places in the list.
func withNumbers(h api.Heap, found []int64) api.Heap {
	x := api.Heap{}
	for i, id := range found {
		o, _ := heap.Get(h, id)
		x.Objects = append(x.Objects, object(int64(i+1), numbered(o.Fields, found)...))
	}
	return x
}

func numbered(values []api.Value, found []int64) []api.Value {
	var l []api.Value
	for _, v := range values {
		if v.Ref {
			v.N = int64(slices.Index(found, v.N) + 1)
		}
		l = append(l, v)
	}
	return l
}

// everyCase goes through heaps with roots: all small ones, most of which are not valid, and some larger ones, about half of which are.
func everyCase(visit func(h api.Heap, roots []api.Value)) {
	values := append(references(0, 1, 2), number(1))
	long, short := listsOf(values, 2), listsOf(values, 1)
	for count, lists := range [][][]api.Value{nil, long, long, short} {
		everyHeap(count, lists, func(h api.Heap) {
			for _, roots := range long {
				visit(h, roots)
			}
		})
	}
	random := rand.New(rand.NewSource(4))
	for range 30000 {
		visit(randomHeap(random), randomValues(random, 4))
	}
}

// listsOf returns all lists of at most so many of the values.
func listsOf(values []api.Value, length int) [][]api.Value {
	if length == 0 {
		return [][]api.Value{nil}
	}
	result := [][]api.Value{nil}
	for _, v := range values {
		for _, rest := range listsOf(values, length-1) {
			result = append(result, append([]api.Value{v}, rest...))
		}
	}
	return result
}

// everyHeap goes through the heaps of so many objects with identifiers from 0 to 2, in all orders, and these fields.
func everyHeap(count int, fields [][]api.Value, visit func(h api.Heap)) {
	if count == 0 {
		visit(api.Heap{})
		return
	}
	everyHeap(count-1, fields, func(h api.Heap) {
		for id := range int64(3) {
			for _, l := range fields {
				visit(of(append(slices.Clone(h.Objects), object(id, l...))...))
			}
		}
	})
}

func randomHeap(random *rand.Rand) api.Heap {
	h := api.Heap{}
	for range random.Intn(12) {
		h.Objects = append(h.Objects, object(randomID(random), randomValues(random, 3)...))
	}
	if random.Intn(2) == 0 {
		h = validated(h)
	}
	return h
}

// validated leaves out of a heap what keeps it from being valid.
func validated(h api.Heap) api.Heap {
	l := sorted(h).Objects
	l = slices.CompactFunc(l, func(a, b api.Object) bool { return a.ID == b.ID })
	return of(slices.DeleteFunc(l, func(o api.Object) bool { return o.ID < 1 })...)
}

// sorted puts the objects of a heap in the order of their identifiers, and leaves equal ones in their order.
func sorted(h api.Heap) api.Heap {
	l := slices.Clone(h.Objects)
	slices.SortStableFunc(l, func(a, b api.Object) int { return cmp.Compare(a.ID, b.ID) })
	return of(l...)
}

func randomID(random *rand.Rand) int64 {
	if random.Intn(20) == 0 {
		return []int64{least, least + 1, most - 1, most}[random.Intn(4)]
	}
	return int64(random.Intn(12) - 2)
}

func randomValues(random *rand.Rand, length int) []api.Value {
	var l []api.Value
	for range random.Intn(length + 1) {
		l = append(l, api.Value{Ref: random.Intn(4) > 0, N: randomID(random)})
	}
	return l
}

// TestEveryCase checks that the cases are as many and as different as they are meant to be.
func TestEveryCase(t *testing.T) {
	seen := map[string]bool{}
	valid, longest := 0, 0
	everyCase(func(h api.Heap, roots []api.Value) {
		seen[fmt.Sprint(h, roots)] = true
		if heap.Valid(h) {
			valid++
		}
		longest = max(longest, len(canon.Reach(h, roots)))
	})
	small := 21 * (1 + 3*21 + 9*21*21 + 27*5*5*5)
	if len(seen) < small+20000 || valid < 20000 || longest < 8 {
		t.Errorf("%d cases, %d of them valid, with up to %d objects", len(seen), valid, longest)
	}
}
