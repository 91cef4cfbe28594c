package parse

import (
	"speculate/api"
	"speculate/source"
	"speculate/words"
)

// Parse returns the program of a text. With an error it returns the number of the line, or 0 if it is the error of no line.
func Parse(s string) (api.Program, int, api.Errno) {
	if len(s) > api.MaxText {
		return api.Program{}, 0, api.ErrLimit
	}
	r := reader{}
	for i, line := range words.Lines(s) {
		if e := r.line(line); e != api.OK {
			return api.Program{}, i + 1, e
		}
	}
	if len(r.funcs) == 0 || len(r.open) > 0 {
		return api.Program{}, 0, api.ErrSyntax
	}
	p := api.Program{Funcs: r.funcs}
	if e := source.Shaped(p); e != api.OK {
		return api.Program{}, 0, e
	}
	return p, 0, api.OK
}

// reader reads the lines of a text. While a function is open, open has it and the statements within one another that have no end yet, from the outside to the inside.
type reader struct {
	funcs    []api.Func
	function api.Func
	open     []block
}

// block is a function or a statement that has no end yet: the function has no kind. The statements that were read go into Else once the line before them was read.
type block struct {
	stmt  api.Stmt
	other bool
}

func (b *block) add(s api.Stmt) {
	if b.other {
		b.stmt.Else = append(b.stmt.Else, s)
	} else {
		b.stmt.Body = append(b.stmt.Body, s)
	}
}

// ends reports whether a block may end here.
func (b *block) ends() bool {
	switch b.stmt.Kind {
	case api.SIf:
		return !b.other || len(b.stmt.Else) > 0
	case api.STry:
		return b.other
	}
	return true
}

func (r *reader) line(line string) api.Errno {
	l, e := words.Split(line)
	if e != api.OK {
		return e
	}
	if len(l) > 0 && !r.read(l) {
		return api.ErrSyntax
	}
	return api.OK
}

// read reads a line, and reports whether it can stand here.
func (r *reader) read(l []string) bool {
	if len(r.open) == 0 {
		return r.begin(l)
	}
	inmost := &r.open[len(r.open)-1]
	switch {
	case len(l) == 1 && l[0] == "end":
		return r.end(inmost)
	case len(l) == 1 && (l[0] == "else" || l[0] == "catch"):
		return turn(inmost, l[0])
	}
	return r.stmt(l, inmost)
}

func (r *reader) begin(l []string) bool {
	f, ok := readLine(l, (*descent).function)
	if !ok {
		return false
	}
	r.function = f
	r.open = append(r.open, block{})
	return true
}

// turn goes on with the Else of a block.
func turn(b *block, word string) bool {
	shape, ok := shapeOfKind(b.stmt.Kind)
	if !ok || shape.between != word || b.other {
		return false
	}
	b.other = true
	return true
}

func (r *reader) stmt(l []string, inmost *block) bool {
	s, ok := readLine(l, (*descent).stmt)
	if !ok {
		return false
	}
	if shape, _ := shapeOfKind(s.Kind); shape.body {
		r.open = append(r.open, block{stmt: s})
	} else {
		inmost.add(s)
	}
	return true
}

func (r *reader) end(inmost *block) bool {
	if !inmost.ends() {
		return false
	}
	ended := inmost.stmt
	r.open = r.open[:len(r.open)-1]
	if len(r.open) == 0 {
		r.function.Body = ended.Body
		r.funcs = append(r.funcs, r.function)
	} else {
		r.open[len(r.open)-1].add(ended)
	}
	return true
}
