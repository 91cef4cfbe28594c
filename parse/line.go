package parse

import (
	"speculate/api"
	"speculate/source"
	"speculate/value"
	"speculate/words"
)

// notRead is what a descent is left with when a line does not go on as it must.
type notRead struct{}

// descent reads a line word by word.
type descent struct{ rest []string }

// readLine reads a line with read, and reports whether it has the words for that and no others.
func readLine[T any](l []string, read func(d *descent) T) (result T, ok bool) {
	defer func() {
		if recover() != nil {
			var none T
			result, ok = none, false
		}
	}()
	d := descent{l}
	result = read(&d)
	d.need(len(d.rest) == 0)
	return result, true
}

func (d *descent) need(ok bool) {
	if !ok {
		panic(notRead{})
	}
}

func (d *descent) word() string {
	d.need(len(d.rest) > 0)
	word := d.rest[0]
	d.rest = d.rest[1:]
	return word
}

func (d *descent) name() string {
	name := d.word()
	d.need(source.Name(name))
	return name
}

// number reads a number from 0 to most.
func (d *descent) number(most int64) int64 {
	n, e := words.Number(d.word())
	d.need(e == api.OK && 0 <= n && n <= most)
	return n
}

func (d *descent) op() int {
	op, ok := value.Op(d.word())
	d.need(ok)
	return op
}

// function reads the line that a function begins with.
func (d *descent) function() api.Func {
	d.need(d.word() == "func")
	f := api.Func{Name: d.name()}
	for len(d.rest) > 0 {
		f.Params = append(f.Params, d.name())
	}
	return f
}

// stmt reads the line that a statement begins with.
func (d *descent) stmt() api.Stmt {
	shape, ok := shapeOfWord(d.word())
	d.need(ok)
	s := api.Stmt{Kind: shape.kind}
	if shape.number {
		s.N = d.number(api.MaxFields - 1)
	}
	if shape.name {
		s.Name = d.name()
	}
	if shape.function {
		s.Func = d.name()
	}
	if shape.op {
		s.Op = d.op()
	}
	for len(s.Exprs) < shape.least || len(s.Exprs) < shape.most && len(d.rest) > 0 {
		left := api.MaxNodes
		s.Exprs = append(s.Exprs, d.expr(&left))
	}
	return s
}

// expr reads an expression that may have so many nodes as are left.
func (d *descent) expr(left *int) api.Expr {
	d.need(*left > 0)
	*left--
	switch word := d.word(); word {
	case "nil":
		return api.Expr{Kind: api.ENil}
	case "field":
		n := d.number(api.MaxFields - 1)
		return api.Expr{Kind: api.EField, N: n, L: []api.Expr{d.expr(left)}}
	case "new":
		return api.Expr{Kind: api.ENew, N: d.number(api.MaxFields)}
	default:
		return d.otherExpr(word, left)
	}
}

// otherExpr reads an expression whose first word is none of the language's own.
func (d *descent) otherExpr(word string, left *int) api.Expr {
	if op, ok := value.Op(word); ok {
		a := d.expr(left)
		return api.Expr{Kind: api.EBin, Op: op, L: []api.Expr{a, d.expr(left)}}
	}
	if n, e := words.Number(word); e == api.OK {
		return api.Expr{Kind: api.ENum, N: n}
	}
	d.need(source.Name(word))
	return api.Expr{Kind: api.EVar, Name: word}
}
