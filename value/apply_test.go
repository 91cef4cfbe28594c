package value_test

import (
	"math"
	"math/big"
	"testing"

	"speculate/api"
	"speculate/value"
)

const (
	least = math.MinInt64
	most  = math.MaxInt64
)

// noOperators are numbers that no operator has.
var noOperators = []int{0, 12, 13, -1, -11, 255, 256, 257, 1 << 32, 1<<32 + 1, math.MaxInt, math.MinInt, math.MinInt + 1}

func number(n int64) api.Value    { return api.Value{N: n} }
func reference(n int64) api.Value { return api.Value{Ref: true, N: n} }

// numbers returns integers at the ends of their ranges, near the powers of 2, and others.
func numbers() []int64 {
	l := []int64{0, 5, 7, 10, 12, 100, 1000003, -5, -7, -10, -12, -100, -1000003, 0x5555555555555555, -0x5555555555555556, 6148914691236517205}
	for _, shift := range []uint{0, 1, 2, 3, 8, 31, 32, 33, 61, 62, 63} {
		for d := int64(-1); d <= 1; d++ {
			n := int64(uint64(1)<<shift) + d
			l = append(l, n, -n)
		}
	}
	return l
}

func wantResult(t *testing.T, op int, a, b api.Value, want int64) {
	t.Helper()
	if v, fault := value.Apply(op, a, b); v != number(want) || fault != 0 {
		t.Errorf("Apply(%d, %v, %v) = %v, %d; want %d", op, a, b, v, fault, want)
	}
}

func wantFault(t *testing.T, op int, a, b api.Value, want int64) {
	t.Helper()
	if v, fault := value.Apply(op, a, b); v != (api.Value{}) || fault != want {
		t.Errorf("Apply(%d, %v, %v) = %v, %d; want fault %d", op, a, b, v, fault, want)
	}
}

func TestTruthy(t *testing.T) {
	for _, n := range numbers() {
		for _, v := range []api.Value{number(n), reference(n)} {
			if value.Truthy(v) != (n != 0) {
				t.Errorf("Truthy(%v) = %v", v, value.Truthy(v))
			}
		}
	}
}

func TestApplyOrdinary(t *testing.T) {
	for _, c := range []struct {
		op         int
		a, b, want int64
	}{
		{api.OpAdd, 1, 2, 3}, {api.OpAdd, -5, 3, -2},
		{api.OpSub, 1, 2, -1}, {api.OpSub, 5, -3, 8},
		{api.OpMul, 6, 7, 42}, {api.OpMul, -6, 7, -42},
		{api.OpDiv, 42, 7, 6}, {api.OpDiv, -42, 7, -6}, {api.OpDiv, 0, 7, 0},
		{api.OpMin, 3, 4, 3}, {api.OpMin, 4, 3, 3}, {api.OpMin, -4, 3, -4}, {api.OpMin, 3, 3, 3},
		{api.OpMax, 3, 4, 4}, {api.OpMax, 4, 3, 4}, {api.OpMax, -4, 3, 3}, {api.OpMax, 3, 3, 3},
		{api.OpAnd, 12, 10, 8}, {api.OpAnd, -1, 10, 10}, {api.OpAnd, -4, 7, 4},
		{api.OpOr, 12, 10, 14}, {api.OpOr, -4, 1, -3}, {api.OpOr, least, most, -1},
		{api.OpXor, 12, 10, 6}, {api.OpXor, -1, 10, -11}, {api.OpXor, 9, 9, 0},
		{api.OpLess, 1, 2, 1}, {api.OpLess, 2, 1, 0}, {api.OpLess, 2, 2, 0}, {api.OpLess, -1, 0, 1}, {api.OpLess, least, most, 1}, {api.OpLess, most, least, 0},
		{api.OpEqual, 2, 2, 1}, {api.OpEqual, 2, 3, 0}, {api.OpEqual, 0, 0, 1}, {api.OpEqual, 1, -1, 0}, {api.OpEqual, least, least, 1}, {api.OpEqual, least, most, 0},
	} {
		wantResult(t, c.op, number(c.a), number(c.b), c.want)
	}
}

func TestApplyModulo(t *testing.T) {
	for _, c := range []struct {
		op         int
		a, b, want int64
	}{
		{api.OpAdd, most, 1, least}, {api.OpAdd, most, most, -2}, {api.OpAdd, least, -1, most}, {api.OpAdd, least, least, 0},
		{api.OpSub, least, 1, most}, {api.OpSub, most, -1, least}, {api.OpSub, 0, least, least}, {api.OpSub, -2, most, most},
		{api.OpMul, 1 << 62, 2, least}, {api.OpMul, 1 << 62, 4, 0}, {api.OpMul, most, most, 1}, {api.OpMul, least, -1, least}, {api.OpMul, 1<<32 + 1, 1<<32 + 1, 1<<33 + 1},
	} {
		wantResult(t, c.op, number(c.a), number(c.b), c.want)
	}
}

func TestApplyDivRounds(t *testing.T) {
	for _, c := range []struct{ a, b, want int64 }{
		{7, 2, 3}, {-7, 2, -3}, {7, -2, -3}, {-7, -2, 3},
		{1, 2, 0}, {-1, 2, 0}, {1, -2, 0}, {-1, -2, 0},
		{most, 2, 1<<62 - 1}, {least + 1, 2, 1 - 1<<62}, {most, least, 0}, {least, most, -1},
		{least, -1, least}, {least, 1, least}, {most, -1, -most}, {least, least, 1}, {least, 2, -1 << 62},
	} {
		wantResult(t, api.OpDiv, number(c.a), number(c.b), c.want)
	}
}

// modulo returns the integer of 64 bits that equals n modulo 2^64.
func modulo(n *big.Int) int64 {
	low := new(big.Int).And(n, new(big.Int).SetUint64(math.MaxUint64))
	return int64(low.Uint64())
}

func reported(b bool) *big.Int {
	if b {
		return big.NewInt(1)
	}
	return big.NewInt(0)
}

// exact returns the result of an operator before it is taken modulo 2^64.
func exact(op int, a, b *big.Int) *big.Int {
	r, c := new(big.Int), a.Cmp(b)
	switch op {
	case api.OpAdd:
		return r.Add(a, b)
	case api.OpSub:
		return r.Sub(a, b)
	case api.OpMul:
		return r.Mul(a, b)
	case api.OpDiv:
		return r.Quo(a, b)
	case api.OpMin:
		return []*big.Int{a, a, b}[c+1]
	case api.OpMax:
		return []*big.Int{b, b, a}[c+1]
	case api.OpAnd:
		return r.And(a, b)
	case api.OpOr:
		return r.Or(a, b)
	case api.OpXor:
		return r.Xor(a, b)
	case api.OpLess:
		return reported(c < 0)
	}
	return reported(c == 0)
}

// TestApplyExact compares Apply with integers that have no bounds.
func TestApplyExact(t *testing.T) {
	for op := api.OpAdd; op <= api.OpEqual; op++ {
		for _, a := range numbers() {
			for _, b := range numbers() {
				if op == api.OpDiv && b == 0 {
					wantFault(t, op, number(a), number(b), api.FaultZero)
					continue
				}
				wantResult(t, op, number(a), number(b), modulo(exact(op, big.NewInt(a), big.NewInt(b))))
			}
		}
	}
}

func TestApplyEqualReferences(t *testing.T) {
	references := append(numbers(), 0, 1, 2, 3)
	for _, a := range references {
		for _, b := range references {
			wantResult(t, api.OpEqual, reference(a), reference(b), reported(a == b).Int64())
			// A reference is no integer, not even nil with the integer 0.
			wantResult(t, api.OpEqual, reference(a), number(b), 0)
			wantResult(t, api.OpEqual, number(a), reference(b), 0)
		}
	}
}

func TestApplyFaultKind(t *testing.T) {
	for op := api.OpAdd; op < api.OpEqual; op++ {
		for _, n := range []int64{0, 1, -1, 7, least, most} {
			wantFault(t, op, reference(n), number(2), api.FaultKind)
			wantFault(t, op, number(2), reference(n), api.FaultKind)
			wantFault(t, op, reference(n), reference(n), api.FaultKind)
			wantFault(t, op, reference(n), reference(2), api.FaultKind)
		}
	}
}

func TestApplyFaultZero(t *testing.T) {
	for _, n := range numbers() {
		wantFault(t, api.OpDiv, number(n), number(0), api.FaultZero)
	}
}

// TestApplyFirstFault divides by 0 and by nil where a reference is a fault, too.
func TestApplyFirstFault(t *testing.T) {
	wantFault(t, api.OpDiv, reference(0), number(0), api.FaultKind)
	wantFault(t, api.OpDiv, reference(5), number(0), api.FaultKind)
	wantFault(t, api.OpDiv, number(5), reference(0), api.FaultKind)
	wantFault(t, api.OpDiv, number(0), reference(0), api.FaultKind)
	wantFault(t, api.OpDiv, reference(0), reference(0), api.FaultKind)
}

func TestApplyNoOperator(t *testing.T) {
	for _, op := range noOperators {
		wantFault(t, op, number(1), number(2), api.FaultKind)
		wantFault(t, op, number(1), number(1), api.FaultKind)
		wantFault(t, op, number(1), number(0), api.FaultKind)
		wantFault(t, op, reference(1), number(1), api.FaultKind)
		wantFault(t, op, number(1), reference(0), api.FaultKind)
		wantFault(t, op, reference(3), reference(3), api.FaultKind)
	}
}
