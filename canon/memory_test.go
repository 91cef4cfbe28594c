package canon_test

import (
	"fmt"
	"slices"
	"testing"

	"speculate/api"
	"speculate/canon"
)

// call is a heap and roots whose lists all have something beyond their lengths.
type call struct {
	heap  api.Heap
	roots []api.Value
}

// calls makes the calls anew. Beyond the lengths are objects that are referred to, and references to the object 7, which is referred to nowhere else.
func calls() []call {
	valid := of(withRoom(2, 5, 9), withRoom(3), withRoom(5, 2, 60), withRoom(7), withRoom(9, 0, 61), withRoom(60, 7), withRoom(61, 7))
	mixed := of(withRoom(9, 5, -4), withRoom(-4, 60), withRoom(0, 2), withRoom(7), withRoom(2, 9), withRoom(9, 7), withRoom(5, 0), withRoom(60, 7), withRoom(61, 7))
	valid.Objects, mixed.Objects = valid.Objects[:5], mixed.Objects[:7]
	var result []call
	for _, length := range []int{0, 1, 3, 5} {
		for _, h := range []api.Heap{valid, mixed} {
			roots := []api.Value{reference(2), number(7), reference(60), reference(9), reference(2), reference(7), reference(7)}
			result = append(result, copied(call{h, roots[:length]}))
		}
	}
	return result
}

// withRoom makes an object whose fields are references, with further ones beyond them.
func withRoom(id int64, to ...int64) api.Object {
	return object(id, append(references(to...), references(7, 61, 7)...)[:len(to)]...)
}

// copied copies a call with all that lies beyond the lengths of its lists.
func copied(c call) call {
	l := slices.Clone(c.heap.Objects[:cap(c.heap.Objects)])
	for i, o := range l {
		l[i].Fields = slices.Clone(o.Fields[:cap(o.Fields)])[:len(o.Fields)]
	}
	roots := slices.Clone(c.roots[:cap(c.roots)])
	return call{of(l[:len(c.heap.Objects)]...), roots[:len(c.roots)]}
}

// whole shows a call with all that lies beyond the lengths of its lists.
func (c call) whole() string {
	s := fmt.Sprintln(len(c.heap.Objects), len(c.roots), c.roots[:cap(c.roots)])
	for _, o := range c.heap.Objects[:cap(c.heap.Objects)] {
		s += fmt.Sprintln(o.ID, len(o.Fields), o.Fields[:cap(o.Fields)])
	}
	return s
}

// spoil changes a list, and all that lies beyond its length.
func spoil[T any](l []T, with T) {
	for i := range l[:cap(l)] {
		l[:cap(l)][i] = with
	}
}

func (c call) spoil() {
	for _, o := range c.heap.Objects[:cap(c.heap.Objects)] {
		spoil(o.Fields, number(-999))
	}
	spoil(c.heap.Objects, object(-999, number(-999)))
	spoil(c.roots, number(-999))
}

func TestCallsHaveRoom(t *testing.T) {
	for i, c := range calls() {
		for _, o := range c.heap.Objects[:cap(c.heap.Objects)] {
			if cap(o.Fields) <= len(o.Fields) {
				t.Errorf("call %d: the object %d has no room", i, o.ID)
			}
		}
		if cap(c.heap.Objects) <= len(c.heap.Objects) || cap(c.roots) <= len(c.roots) {
			t.Errorf("call %d has no room", i)
		}
	}
}

func TestArgumentsAreKept(t *testing.T) {
	for i, c := range calls() {
		before := c.whole()
		canon.Reach(c.heap, c.roots)
		if c.whole() != before {
			t.Errorf("call %d: Reach changes %s to %s", i, before, c.whole())
		}
		canon.Canon(c.heap, c.roots)
		if c.whole() != before {
			t.Errorf("call %d: Canon changes %s to %s", i, before, c.whole())
		}
	}
}

// TestBeyondTheLengths checks that what lies beyond the length of a list is neither found nor returned.
func TestBeyondTheLengths(t *testing.T) {
	for i, c := range calls() {
		l := canon.Reach(c.heap, c.roots)
		if slices.Contains(l, 7) || slices.Contains(l, 60) || slices.Contains(l, 61) || !slices.Equal(l, plainReach(c.heap, c.roots)) {
			t.Errorf("call %d: Reach returns %v", i, l)
		}
		wantCanon(t, c.heap, c.roots, withNumbers(c.heap, l), numbered(c.roots, l))
	}
}

func TestResultsAreNewMemory(t *testing.T) {
	for i, c := range calls() {
		l := canon.Reach(c.heap, c.roots)
		h, roots := canon.Canon(c.heap, c.roots)
		before := fmt.Sprint(l, h, roots)
		c.spoil()
		if after := fmt.Sprint(l, h, roots); after != before {
			t.Errorf("call %d: with the arguments the results change from %s to %s", i, before, after)
		}
	}
	for i, c := range calls() {
		before := c.whole()
		spoil(canon.Reach(c.heap, c.roots), -999)
		h, roots := canon.Canon(c.heap, c.roots)
		call{h, roots}.spoil()
		if c.whole() != before {
			t.Errorf("call %d: with the results the arguments change from %s to %s", i, before, c.whole())
		}
	}
}

// TestListsAreApart checks that the lists of a result share no memory with one another, what lies beyond their lengths included.
func TestListsAreApart(t *testing.T) {
	for i, c := range calls() {
		count := len(canon.Reach(c.heap, c.roots))
		for at := range count + 1 {
			h, roots := canon.Canon(c.heap, c.roots)
			lists := [][]api.Value{roots}
			for _, o := range h.Objects {
				lists = append(lists, o.Fields)
			}
			before := fmt.Sprint(lists[:at], lists[at+1:])
			spoil(lists[at], number(-999))
			if after := fmt.Sprint(lists[:at], lists[at+1:]); after != before {
				t.Errorf("call %d: with the list %d the others change from %s to %s", i, at, before, after)
			}
		}
	}
}

// TestCallsAreApart checks that two calls with the same arguments share nothing.
func TestCallsAreApart(t *testing.T) {
	for i, c := range calls() {
		l := canon.Reach(c.heap, c.roots)
		h, roots := canon.Canon(c.heap, c.roots)
		before := fmt.Sprint(l, h, roots)
		spoil(canon.Reach(c.heap, c.roots), -999)
		other, others := canon.Canon(c.heap, c.roots)
		call{other, others}.spoil()
		if after := fmt.Sprint(l, h, roots); after != before {
			t.Errorf("call %d: with another call's results these change from %s to %s", i, before, after)
		}
	}
}
