package value_test

import (
	"testing"

	"speculate/api"
	"speculate/value"
)

// units are the operators for which Assoc is true, with their units.
func units() map[int]int64 {
	return map[int]int64{api.OpAdd: 0, api.OpMul: 1, api.OpMin: most, api.OpMax: least, api.OpAnd: -1, api.OpOr: 0, api.OpXor: 0}
}

func TestAssoc(t *testing.T) {
	for op := -20; op <= 40; op++ {
		if _, want := units()[op]; value.Assoc(op) != want {
			t.Errorf("Assoc(%d) = %v", op, !want)
		}
	}
	for _, op := range noOperators {
		if value.Assoc(op) {
			t.Errorf("Assoc(%d) = true", op)
		}
	}
}

func TestUnit(t *testing.T) {
	for op, want := range units() {
		if u, ok := value.Unit(op); !ok || u != number(want) {
			t.Errorf("Unit(%d) = %v, %v; want %d", op, u, ok, want)
		}
	}
	for _, op := range append([]int{api.OpSub, api.OpDiv, api.OpLess, api.OpEqual}, noOperators...) {
		if u, ok := value.Unit(op); ok || u != (api.Value{}) {
			t.Errorf("Unit(%d) = %v, %v; want none", op, u, ok)
		}
	}
}

func TestUnitChangesNothing(t *testing.T) {
	for op := range units() {
		u, _ := value.Unit(op)
		for _, n := range numbers() {
			wantResult(t, op, u, number(n), n)
			wantResult(t, op, number(n), u, n)
		}
	}
}

// result is Apply on integers, for operators that have no fault there.
func result(t *testing.T, op int, a, b int64) int64 {
	t.Helper()
	v, fault := value.Apply(op, number(a), number(b))
	if fault != 0 || v.Ref {
		t.Fatalf("Apply(%d, %d, %d) = %v, %d", op, a, b, v, fault)
	}
	return v.N
}

func TestAssocCommutes(t *testing.T) {
	for op := range units() {
		for _, a := range numbers() {
			for _, b := range numbers() {
				if ab, ba := result(t, op, a, b), result(t, op, b, a); ab != ba {
					t.Errorf("operator %d: %d and %d give %d, exchanged %d", op, a, b, ab, ba)
				}
			}
		}
	}
}

func TestAssocAssociates(t *testing.T) {
	some := []int64{0, 1, -1, 2, -3, 7, 10, 1 << 32, 1<<32 + 1, 1 << 62, most, most - 1, least, least + 1, 0x5555555555555555}
	for op := range units() {
		for _, a := range some {
			for _, b := range some {
				for _, c := range some {
					left := result(t, op, result(t, op, a, b), c)
					right := result(t, op, a, result(t, op, b, c))
					if left != right {
						t.Errorf("operator %d: %d, %d and %d give %d from the left, %d from the right", op, a, b, c, left, right)
					}
				}
			}
		}
	}
}
