package canon_test

import (
	"slices"
	"testing"

	"speculate/api"
	"speculate/canon"
	"speculate/heap"
)

func TestCanonEveryCase(t *testing.T) {
	everyCase(func(h api.Heap, roots []api.Value) {
		found := plainReach(h, roots)
		x, now := canon.Canon(h, roots)
		want, wantNow := withNumbers(h, found), numbered(roots, found)
		if !heap.Same(x, want) || !slices.Equal(now, wantNow) {
			t.Fatalf("Canon(%v, %v) = %v, %v; want %v, %v", h, roots, x, now, want, wantNow)
		}
	})
}

// TestExample is the chapter's example.
func TestExample(t *testing.T) {
	wantCanon(t, of(linked(9, 9)), references(9), of(linked(1, 1)), references(1))
}

func TestCanonOfNothing(t *testing.T) {
	for _, h := range []api.Heap{{}, {Objects: []api.Object{}}, of(linked(4, 4))} {
		wantCanon(t, h, nil, api.Heap{}, nil)
		wantCanon(t, h, []api.Value{}, api.Heap{}, nil)
		wantCanon(t, h, []api.Value{number(4), reference(3), {}, reference(0)}, api.Heap{}, []api.Value{number(4), reference(0), {}, reference(0)})
	}
}

func TestNumbersInTheOrderFound(t *testing.T) {
	h := of(linked(2, 7), linked(4, 2, 9, 4), linked(7, 4), linked(9, 7, 2))
	wantCanon(t, h, references(4), of(linked(1, 2, 3, 1), linked(2, 4), linked(3, 4, 2), linked(4, 1)), references(1))
	wantCanon(t, h, references(9, 4), of(linked(1, 3, 4), linked(2, 4, 1, 2), linked(3, 2), linked(4, 3)), references(1, 2))
	wantCanon(t, h, references(2), of(linked(1, 2), linked(2, 3), linked(3, 1, 4, 3), linked(4, 2, 1)), references(1))
}

// TestOldAndNewNumbers checks that a new identifier is not taken for an old one.
func TestOldAndNewNumbers(t *testing.T) {
	wantCanon(t, of(linked(1, 2), linked(2, 3), linked(3, 1)), references(3, 2, 1), of(linked(1, 3), linked(2, 1), linked(3, 2)), references(1, 2, 3))
	wantCanon(t, of(linked(2, 3), linked(3, 1)), references(2), of(linked(1, 2), linked(2, 0)), references(1))
	wantCanon(t, of(linked(5, 1, 2)), references(2, 5, 1), of(linked(1, 0, 0)), references(0, 1, 0))
}

func TestRoots(t *testing.T) {
	h := of(linked(3), linked(6, 3))
	wantCanon(t, h, references(6, 6, 3, 6), of(linked(1, 2), linked(2)), references(1, 1, 2, 1))
	wantCanon(t, h, []api.Value{number(6), reference(3), number(most), reference(4), reference(3)},
		of(linked(1)), []api.Value{number(6), reference(1), number(most), reference(0), reference(1)})
}

func TestEverythingElseIsTheSame(t *testing.T) {
	h := of(object(5, number(5), reference(5), number(least), reference(0), number(0), number(1)), object(6), object(7, number(7)))
	want := of(object(1, number(5), reference(1), number(least), reference(0), number(0), number(1)), object(2, number(7)))
	wantCanon(t, h, []api.Value{reference(5), number(5), reference(7)}, want, []api.Value{reference(1), number(5), reference(2)})
}

func TestNotThereBecomesNil(t *testing.T) {
	h := of(linked(2, 1, 3, -1, most, least, 0, 2))
	wantCanon(t, h, references(1, 2, -1, 0), of(linked(1, 0, 0, 0, 0, 0, 0, 1)), references(0, 1, 0, 0))
	wantCanon(t, h, references(most, least), api.Heap{}, references(0, 0))
}

func TestObjectZero(t *testing.T) {
	h := of(linked(0, 0, 4, 3), linked(4, 0))
	wantCanon(t, h, references(0), of(linked(1, 1, 2, 0), linked(2, 1)), references(1))
	wantCanon(t, h, []api.Value{reference(4), number(0), reference(0)}, of(linked(1, 2), linked(2, 2, 1, 0)), []api.Value{reference(1), number(0), reference(2)})
}

func TestCanonNotValid(t *testing.T) {
	h := of(linked(9, -3), object(4, number(4)), linked(-3, 4, 9), linked(4, 9, 9), linked(9), object(least))
	wantCanon(t, h, references(9), of(linked(1, 2), linked(2, 3, 1), object(3, number(4))), references(1))
	wantCanon(t, h, references(least, 4), of(object(1), object(2, number(4))), references(1, 2))
	wantCanon(t, of(linked(5), linked(5, 5)), references(5), of(object(1)), references(1))
}
