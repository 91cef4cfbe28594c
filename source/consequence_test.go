package source_test

import (
	"reflect"
	"testing"

	"speculate/api"
	"speculate/source"
)

// TestShapedIsTheSame checks that the same programs are shaped or not, whichever empty lists they have.
func TestShapedIsTheSame(t *testing.T) {
	somePrograms(func(p api.Program) {
		for _, q := range []api.Program{copied(p, always), copied(p, never)} {
			if !source.Same(p, q) || source.Shaped(p) != source.Shaped(q) {
				t.Fatalf("%s is shaped or not with other empty lists", brief(p))
			}
		}
	})
}

// TestShapedIsTheSameAsShapedOnly changes a shaped program everywhere, so that many of the others are not shaped.
func TestShapedIsTheSameAsShapedOnly(t *testing.T) {
	p := fullProgram()
	wantShaped(t, p, api.OK)
	q := copied(p, always)
	wrong := 0
	everyChange(reflect.ValueOf(&q).Elem(), "", func(change string) {
		if e := source.Shaped(q); e != plainProgram(q) {
			t.Fatalf("Shaped is %d after the change %s", e, change)
		} else if e != api.OK {
			wrong++
			wantSame(t, p, q, false)
		}
	})
	if wrong < 1000 {
		t.Errorf("only %d changes make the program wrong", wrong)
	}
}

// TestNamesOfTheSame checks that the same programs have the same variables and read the same.
func TestNamesOfTheSame(t *testing.T) {
	somePrograms(func(p api.Program) {
		q := copied(p, always)
		for i, f := range p.Funcs {
			wantVarList(t, q.Funcs[i], source.Vars(f))
			for j, s := range f.Body {
				for k, e := range s.Exprs {
					wantReads(t, q.Funcs[i].Body[j].Exprs[k], source.Reads(e)...)
				}
			}
		}
	})
}
