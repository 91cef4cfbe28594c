package parse_test

import (
	"testing"

	"speculate/api"
	"speculate/source"
)

// TestExample is the chapter's example and that of the whole document: a program that returns 3.
func TestExample(t *testing.T) {
	p := program(
		assign("a", binary(api.OpAdd, number(1), number(2))),
		api.Stmt{Kind: api.SReturn, Exprs: []api.Expr{variable("a")}},
	)
	wantBoth(t, p, "func main\nset a add 1 2\nreturn a\nend\n")
	wantProgram(t, "func main\nset a add 1 2\nreturn a\nend", p)
	if e := source.Shaped(p); e != api.OK {
		t.Errorf("the example is not shaped: %d", e)
	}
}
