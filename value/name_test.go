package value_test

import (
	"strings"
	"testing"

	"speculate/api"
	"speculate/value"
)

func operatorNames() map[int]string {
	return map[int]string{
		api.OpAdd: "add", api.OpSub: "sub", api.OpMul: "mul", api.OpDiv: "div", api.OpMin: "min", api.OpMax: "max",
		api.OpAnd: "and", api.OpOr: "or", api.OpXor: "xor", api.OpLess: "less", api.OpEqual: "equal",
	}
}

func TestName(t *testing.T) {
	for op, want := range operatorNames() {
		if name, ok := value.Name(op); !ok || name != want {
			t.Errorf("Name(%d) = %q, %v; want %q", op, name, ok, want)
		}
	}
	for _, op := range noOperators {
		if name, ok := value.Name(op); ok || name != "" {
			t.Errorf("Name(%d) = %q, %v; want none", op, name, ok)
		}
	}
}

func TestOp(t *testing.T) {
	for want, name := range operatorNames() {
		if op, ok := value.Op(name); !ok || op != want {
			t.Errorf("Op(%q) = %d, %v; want %d", name, op, ok, want)
		}
	}
}

func TestOpNoName(t *testing.T) {
	none := []string{"", " ", "\x00", "+", "1", "nil", "mod", "not", "greater", "eq", "ad", "adds", "orx", "minmax", "\xff", strings.Repeat("add", 5000)}
	for _, name := range operatorNames() {
		none = append(none, strings.ToUpper(name), strings.ToUpper(name[:1])+name[1:], " "+name, name+" ", name+"\x00", name+"\n", name[:len(name)-1], name+name)
	}
	for _, name := range none {
		if op, ok := value.Op(name); ok || op != 0 {
			t.Errorf("Op(%.40q) = %d, %v; want none", name, op, ok)
		}
	}
}

// TestNamedOperatorsApply checks that just the operators with names have results.
func TestNamedOperatorsApply(t *testing.T) {
	for op := -20; op <= 40; op++ {
		_, named := value.Name(op)
		if _, fault := value.Apply(op, number(6), number(3)); named != (fault == 0) {
			t.Errorf("operator %d: named %v, fault %d", op, named, fault)
		}
	}
}
