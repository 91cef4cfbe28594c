package canon_test

import (
	"slices"
	"testing"

	"speculate/api"
	"speculate/canon"
)

func TestReachEveryCase(t *testing.T) {
	everyCase(func(h api.Heap, roots []api.Value) {
		if l, want := canon.Reach(h, roots), plainReach(h, roots); !slices.Equal(l, want) {
			t.Fatalf("Reach(%v, %v) = %v, want %v", h, roots, l, want)
		}
	})
}

func TestNoRoots(t *testing.T) {
	for _, h := range []api.Heap{{}, {Objects: []api.Object{}}, of(linked(1, 1)), of(linked(1, 2), linked(2, 1)), of(linked(2), linked(0, 0), linked(-1, -1))} {
		wantReach(t, h, nil)
		wantReach(t, h, []api.Value{})
	}
}

func TestEmptyHeap(t *testing.T) {
	for _, h := range []api.Heap{{}, {Objects: []api.Object{}}} {
		wantReach(t, h, []api.Value{reference(1), reference(0), number(1), reference(-1), reference(most), number(least), reference(least)})
	}
}

func TestObjectsWithoutFields(t *testing.T) {
	h := of(api.Object{ID: 3}, api.Object{ID: 7, Fields: []api.Value{}})
	wantReach(t, h, references(7), 7)
	wantReach(t, h, references(3), 3)
	wantReach(t, h, references(7, 3), 7, 3)
}

func TestChains(t *testing.T) {
	up := of(linked(2, 4), linked(4, 6), linked(6, 9), linked(9))
	wantReach(t, up, references(2), 2, 4, 6, 9)
	wantReach(t, up, references(6), 6, 9)
	wantReach(t, up, references(9), 9)
	down := of(linked(2), linked(4, 2), linked(6, 4), linked(9, 6))
	wantReach(t, down, references(9), 9, 6, 4, 2)
	wantReach(t, down, references(4), 4, 2)
	// The chain ends where a reference is to nothing.
	wantReach(t, of(linked(2, 4), linked(4, 5), linked(6, 9), linked(9)), references(2), 2, 4)
}

func TestRings(t *testing.T) {
	wantReach(t, of(linked(9, 9)), references(9), 9)
	wantReach(t, of(linked(1, 1, 1, 1)), references(1, 1), 1)
	wantReach(t, of(linked(3, 5), linked(5, 3)), references(5), 5, 3)
	ring := of(linked(1, 4), linked(3, 8), linked(4, 3), linked(8, 1))
	wantReach(t, ring, references(1), 1, 4, 3, 8)
	wantReach(t, ring, references(3), 3, 8, 1, 4)
	wantReach(t, ring, references(3, 1), 3, 1, 8, 4)
	// A ring is entered from outside, and left.
	wantReach(t, of(linked(1, 2), linked(2, 3), linked(3, 2, 7), linked(7, 7)), references(1), 1, 2, 3, 7)
}

func TestSharedObjects(t *testing.T) {
	h := of(linked(1, 5, 5), linked(2, 5, 1), linked(5, 6), linked(6))
	wantReach(t, h, references(1), 1, 5, 6)
	wantReach(t, h, references(2), 2, 5, 1, 6)
	wantReach(t, h, references(5, 2, 5, 1, 2), 5, 2, 1, 6)
	wantReach(t, h, references(6, 6, 6), 6)
}

// TestOrder checks that all roots come before any field, and the fields of the objects that were found first before those of later ones.
func TestOrder(t *testing.T) {
	tree := of(linked(1, 2, 3), linked(2, 4, 5), linked(3, 6, 7), linked(4, 8), linked(5), linked(6, 9), linked(7), linked(8), linked(9))
	wantReach(t, tree, references(1), 1, 2, 3, 4, 5, 6, 7, 8, 9)
	wantReach(t, tree, references(3, 2), 3, 2, 6, 7, 4, 5, 9, 8)
	wantReach(t, tree, references(1, 7, 4), 1, 7, 4, 2, 3, 8, 5, 6, 9)
	turned := of(linked(1, 3, 2), linked(2, 5, 4), linked(3, 7, 6), linked(4), linked(5), linked(6), linked(7))
	wantReach(t, turned, references(1), 1, 3, 2, 7, 6, 5, 4)
	// An object that is near through a late field is found before one that is far through an early field.
	wantReach(t, of(linked(1, 2, 9), linked(2, 3), linked(3, 4), linked(4), linked(9, 4)), references(1), 1, 2, 9, 3, 4)
}

func TestIntegersAreNoReferences(t *testing.T) {
	h := of(object(1, number(2), reference(3)), object(2, number(1)), object(3, number(2), number(3)))
	wantReach(t, h, []api.Value{number(2), reference(1), number(3)}, 1, 3)
	wantReach(t, h, []api.Value{number(1), number(2), number(3)})
	// The integer comes first, then the reference of the same number.
	wantReach(t, h, []api.Value{number(2), reference(2)}, 2)
	wantReach(t, of(object(1, number(2), reference(2)), object(2)), references(1), 1, 2)
	wantReach(t, of(linked(1, 2), linked(2)), []api.Value{number(0), reference(1)}, 1, 2)
}

func TestNoSuchObject(t *testing.T) {
	h := of(linked(2, 1, 3, -1), linked(5, 7, 2, 6), linked(8, most, least, 0))
	wantReach(t, h, references(1, 3, 4, 6, 7, 9, -2, -5, most, least))
	wantReach(t, h, references(5), 5, 2)
	wantReach(t, h, references(7, 8, 1, 2), 8, 2)
	wantReach(t, h, references(7, 7, 5, 7, 5), 5, 2)
}

func TestReferenceZero(t *testing.T) {
	without := of(linked(1, 0, 2, 0), linked(2))
	wantReach(t, without, references(0))
	wantReach(t, without, references(0, 1, 0), 1, 2)
	with := of(linked(0, 2), linked(1, 0, 3), linked(2), linked(3))
	wantReach(t, with, references(0), 0, 2)
	wantReach(t, with, references(1), 1, 0, 3, 2)
	wantReach(t, with, []api.Value{number(0), reference(3)}, 3)
	wantReach(t, of(linked(0, 0)), references(0, 0), 0)
	// The object 0 may be anywhere.
	wantReach(t, of(linked(3, 0), linked(0, 1), linked(1)), references(3), 3, 0, 1)
}

func TestReachNotValid(t *testing.T) {
	negative := of(linked(least, -2), linked(-2, -7, -1), linked(-1, least))
	wantReach(t, negative, references(least), least, -2, -1)
	wantReach(t, negative, references(-1), -1, least, -2)
	descending := of(linked(9, 4), linked(6, 9), linked(4, 6, 5), linked(1))
	wantReach(t, descending, references(9), 9, 4, 6)
	wantReach(t, descending, references(1, 6), 1, 6, 9, 4)
	mixed := of(linked(4, 9), linked(9, 1), linked(6, 4), linked(1, 6), linked(most, 9), linked(3))
	wantReach(t, mixed, references(4), 4, 9, 1, 6)
	wantReach(t, mixed, references(3, most), 3, most, 9, 1, 6, 4)
}

// TestFirstObjectCounts checks that behind an object others with its identifier are neither reached nor gone through.
func TestFirstObjectCounts(t *testing.T) {
	equal := of(linked(5, 1), linked(5, 2), linked(1), linked(2))
	wantReach(t, equal, references(5), 5, 1)
	wantReach(t, of(linked(1), linked(2), linked(5), linked(5, 2), linked(5, 1)), references(5), 5)
	wantReach(t, of(linked(1, 5), linked(5, 1), linked(5, 2), linked(2)), references(2, 1), 2, 1, 5)
	wantReach(t, of(linked(5, 2), linked(1), linked(2), linked(5, 1)), references(5), 5, 2)
	wantReach(t, of(linked(0, 2), linked(0, 1), linked(1), linked(2)), references(0), 0, 2)
}

func TestExtremes(t *testing.T) {
	h := of(linked(1, most-1), linked(most-1, most, least), linked(most, 1))
	wantReach(t, h, references(most), most, 1, most-1)
	wantReach(t, h, []api.Value{reference(least), number(most), reference(most - 1)}, most-1, most, 1)
}

func TestManyFieldsAndRoots(t *testing.T) {
	h := of(object(1))
	want := []int64{1}
	for id := int64(2); id < 1000; id++ {
		h.Objects[0].Fields = append(h.Objects[0].Fields, number(id+1), reference(1001-id), reference(id+5000))
		h.Objects = append(h.Objects, linked(id, id, 1))
		want = append(want, 1001-id)
	}
	wantReach(t, h, references(1), want...)
	wantReach(t, h, h.Objects[0].Fields, append(slices.Clone(want[1:]), 1)...)
}

func TestLongChain(t *testing.T) {
	const length = 100000
	h := api.Heap{}
	var want []int64
	for id := int64(length); id >= 1; id-- {
		h.Objects = append(h.Objects, linked(3*(length+1-id), 3*(length-id)))
		want = append(want, 3*id)
	}
	if l := canon.Reach(h, references(3*length)); !slices.Equal(l, want) {
		t.Errorf("Reach finds %d objects, want %d", len(l), length)
	}
	x, now := canon.Canon(h, references(3*length))
	if len(x.Objects) != length || !slices.Equal(now, references(1)) {
		t.Fatalf("Canon returns %d objects and %v", len(x.Objects), now)
	}
	for i, o := range x.Objects {
		if want := references(int64(i+2) % (length + 1)); o.ID != int64(i+1) || !slices.Equal(o.Fields, want) {
			t.Fatalf("the object %d is %v", i+1, o)
		}
	}
}

// TestLongChainNotValid is a chain through a heap in descending order.
func TestLongChainNotValid(t *testing.T) {
	h := api.Heap{}
	var want []int64
	for id := int64(2000); id > -2000; id-- {
		h.Objects = append(h.Objects, linked(id, id-1))
		want = append(want, id)
	}
	wantReach(t, h, references(2000), want...)
}
