package parse_test

import (
	"reflect"
	"strconv"
	"strings"
	"testing"

	"speculate/api"
	"speculate/parse"
	"speculate/source"
	"speculate/words"
)

// plainText reads the definitions of the words of an expression and of the lines of a program, which must be shaped.
func plainText(p api.Program) string {
	var lines []string
	for _, f := range p.Funcs {
		lines = append(lines, strings.Join(append([]string{"func", f.Name}, f.Params...), " "))
		lines = append(append(lines, plainLines(f.Body)...), "end")
	}
	return strings.Join(lines, "\n") + "\n"
}

func plainLines(l []api.Stmt) []string {
	var lines []string
	for _, s := range l {
		line := []string{map[int]string{
			api.SAssign: "set " + s.Name, api.SStore: "store " + strconv.FormatInt(s.N, 10), api.SCall: "call " + s.Name + " " + s.Func,
			api.SIf: "if", api.SFor: "for " + s.Name, api.SWhile: "while", api.SReturn: "return", api.SThrow: "throw",
			api.STry: "try " + s.Name, api.SEmit: "emit", api.SAsk: "ask " + s.Name,
			api.SReduce: "reduce " + s.Name + " " + operatorName(s.Op),
		}[s.Kind]}
		for _, e := range s.Exprs {
			line = append(line, plainWords(e))
		}
		lines = append(append(lines, strings.Join(line, " ")), plainLines(s.Body)...)
		if s.Kind == api.SIf && len(s.Else) > 0 {
			lines = append(lines, "else")
		}
		if s.Kind == api.STry {
			lines = append(lines, "catch")
		}
		lines = append(lines, plainLines(s.Else)...)
		if s.Kind == api.SIf || s.Kind == api.SFor || s.Kind == api.SWhile || s.Kind == api.STry {
			lines = append(lines, "end")
		}
	}
	return lines
}

func operatorName(op int) string {
	if op < 1 || op > 11 {
		return ""
	}
	return operators()[op-1]
}

func plainWords(e api.Expr) string {
	n := strconv.FormatInt(e.N, 10)
	switch e.Kind {
	case api.ENum:
		return n
	case api.EVar:
		return e.Name
	case api.EField:
		return "field " + n + " " + plainWords(e.L[0])
	case api.EBin:
		return operatorName(e.Op) + " " + plainWords(e.L[0]) + " " + plainWords(e.L[1])
	case api.ENew:
		return "new " + n
	}
	return "nil"
}

// plainParse reads P6.3.
func plainParse(s string) (api.Program, int, api.Errno) {
	if len(s) > api.MaxText {
		return api.Program{}, 0, api.ErrLimit
	}
	read := plainReader{}
	for i, line := range strings.Split(strings.TrimSuffix(s, "\n"), "\n") {
		l, e := words.Split(line)
		if e == api.OK && len(l) > 0 && !read.line(l) {
			e = api.ErrSyntax
		}
		if e != api.OK {
			return api.Program{}, i + 1, e
		}
	}
	if len(read.nodes) == 0 || read.state() != "" {
		return api.Program{}, 0, api.ErrSyntax
	}
	p := api.Program{}
	for rest := read.nodes; len(rest) > 0; {
		f := api.Func{Name: rest[0].words[1], Params: rest[0].words[2:]}
		f.Body, rest = plainBlock(rest[1:])
		p.Funcs = append(p.Funcs, f)
		rest = rest[1:]
	}
	if e := source.Shaped(p); e != api.OK {
		return api.Program{}, 0, e
	}
	return p, 0, api.OK
}

// plainNode is a line that can stand where it is, with its statement if it is one.
type plainNode struct {
	words []string
	stmt  api.Stmt
}

// plainReader keeps the lines that were read and the first words of those without an end; for what was turned to Else, those of that line.
type plainReader struct {
	nodes []plainNode
	open  []string
}

func (r *plainReader) state() string {
	if len(r.open) == 0 {
		return ""
	}
	return r.open[len(r.open)-1]
}

func (r *plainReader) line(l []string) bool {
	node := plainNode{words: l}
	word, state := l[0], r.state()
	last := ""
	if len(r.nodes) > 0 {
		last = r.nodes[len(r.nodes)-1].words[0]
	}
	switch word {
	case "func":
		if state != "" || len(l) < 2 || !allNames(l[1:]) {
			return false
		}
		r.open = append(r.open, word)
	case "end":
		if state == "" || state == "try" || last == "else" || len(l) > 1 {
			return false
		}
		r.open = r.open[:len(r.open)-1]
	case "else", "catch":
		if state != map[string]string{"else": "if", "catch": "try"}[word] || len(l) > 1 {
			return false
		}
		r.open[len(r.open)-1] = word
	default:
		s, ok := plainStatement(l)
		if !ok || state == "" {
			return false
		}
		node.stmt = s
		if word == "if" || word == "for" || word == "while" || word == "try" {
			r.open = append(r.open, word)
		}
	}
	r.nodes = append(r.nodes, node)
	return true
}

func allNames(l []string) bool {
	for _, s := range l {
		if !source.Name(s) {
			return false
		}
	}
	return true
}

// plainBlock returns the statements up to the line that they end with, and the lines from that one on.
func plainBlock(l []plainNode) ([]api.Stmt, []plainNode) {
	var body []api.Stmt
	for {
		switch first := l[0].words[0]; first {
		case "end", "else", "catch":
			return body, l
		case "if", "for", "while", "try":
			s := l[0].stmt
			s.Body, l = plainBlock(l[1:])
			if l[0].words[0] != "end" {
				s.Else, l = plainBlock(l[1:])
			}
			body = append(body, s)
		default:
			body = append(body, l[0].stmt)
		}
		l = l[1:]
	}
}

// plainStatement reads a line by what stands before its expressions: a letter each for a name, a field and an operator.
func plainStatement(l []string) (api.Stmt, bool) {
	lines := map[string]struct {
		kind        int
		before      string
		least, most int
	}{
		"set": {api.SAssign, "n", 1, 1}, "store": {api.SStore, "f", 2, 2}, "call": {api.SCall, "nn", 0, 4}, "if": {api.SIf, "", 1, 1},
		"for": {api.SFor, "n", 2, 2}, "while": {api.SWhile, "", 1, 1}, "return": {api.SReturn, "", 1, 1}, "throw": {api.SThrow, "", 1, 1},
		"try": {api.STry, "n", 0, 0}, "emit": {api.SEmit, "", 1, 1}, "ask": {api.SAsk, "n", 1, 1}, "reduce": {api.SReduce, "no", 1, 1},
	}
	line, ok := lines[l[0]]
	if !ok || len(l) < 1+len(line.before) {
		return api.Stmt{}, false
	}
	s := api.Stmt{Kind: line.kind}
	for i, part := range line.before {
		word := l[1+i]
		switch {
		case part == 'f':
			s.N, ok = plainNumber(word, 0, 15)
		case part == 'o':
			s.Op, ok = plainOp(word)
		case s.Name == "":
			s.Name, ok = word, source.Name(word)
		default:
			s.Func, ok = word, source.Name(word)
		}
		if !ok {
			return api.Stmt{}, false
		}
	}
	s.Exprs, ok = plainExprs(l[1+len(line.before):])
	return s, ok && len(s.Exprs) >= line.least && len(s.Exprs) <= line.most
}

func plainNumber(word string, from, to int64) (int64, bool) {
	n, err := strconv.ParseInt(word, 10, 64)
	return n, err == nil && strconv.FormatInt(n, 10) == word && n >= from && n <= to
}

func plainOp(word string) (int, bool) {
	for i, name := range operators() {
		if name == word {
			return i + 1, true
		}
	}
	return 0, false
}

// plainExprs reads words from the last one to the first, and keeps the expressions that were not taken yet, the first one last.
func plainExprs(l []string) ([]api.Expr, bool) {
	var kept []api.Expr
	for i := len(l) - 1; i >= 0; i-- {
		e, wanted := plainExpr(l[i], kept)
		if wanted < 0 || wanted > len(kept) {
			return nil, false
		}
		// Of field and new the number is kept as an expression of its own until the word before it is read.
		if e.Kind == api.EField || e.Kind == api.ENew {
			if n := kept[len(kept)-1]; n.Kind != api.ENum || n.Op != 0 {
				return nil, false
			}
			e.N = kept[len(kept)-1].N
			if e.N < 0 || e.N > 16 || e.Kind == api.EField && e.N == 16 {
				return nil, false
			}
			kept, wanted = kept[:len(kept)-1], wanted-1
		}
		for range wanted {
			e.L = append(e.L, kept[len(kept)-1])
			kept = kept[:len(kept)-1]
		}
		kept = append(kept, e)
	}
	var inOrder []api.Expr
	for i := range kept {
		e := kept[len(kept)-1-i]
		if size(e) > 16 {
			return nil, false
		}
		inOrder = append(inOrder, e)
	}
	return inOrder, true
}

// plainExpr says which expression begins with a word and how many of those behind it belong to it, or a negative number if none does.
func plainExpr(word string, kept []api.Expr) (api.Expr, int) {
	if op, ok := plainOp(word); ok {
		return api.Expr{Kind: api.EBin, Op: op}, 2
	}
	switch word {
	case "nil":
		return null(), 0
	case "field":
		return api.Expr{Kind: api.EField}, 2
	case "new":
		return api.Expr{Kind: api.ENew}, 1
	}
	if n, ok := plainNumber(word, least, most); ok {
		return number(n), 0
	}
	if source.Name(word) {
		return variable(word), 0
	}
	return api.Expr{}, -1
}

func size(e api.Expr) int {
	n := 1
	for _, part := range e.L {
		n += size(part)
	}
	return n
}

// wantPlain checks that Parse returns what the plain reading does, and says whether that is a program.
func wantPlain(t *testing.T, s string) api.Errno {
	t.Helper()
	want, line, e := plainParse(s)
	if e == api.OK {
		wantProgram(t, s, want)
	} else {
		wantError(t, s, line, e)
	}
	return e
}

func TestFormatIsPlain(t *testing.T) {
	somePrograms(func(p api.Program) {
		wantBoth(t, p, plainText(p))
		if q, line, e := plainParse(plainText(p)); e != api.OK || line != 0 || !reflect.DeepEqual(mended(q), mended(p)) {
			t.Fatalf("the plain readings differ for %s", brief(p))
		}
	})
}

// mended returns a program all of whose empty lists are not nil.
func mended(p api.Program) api.Program { return copied(p, true) }

// fullProgram has statements and expressions of all kinds, several deep.
func fullProgram(t *testing.T) api.Program {
	t.Helper()
	p, line, e := parse.Parse(fullText)
	if e != api.OK {
		t.Fatalf("the full text is wrong in line %d: %d", line, e)
	}
	return p
}

const fullText = `func main a b c
set x less field 3 add a -7 equal nil new 4
try e
call r g
call r g a sub b 1
store 15 r field 0 x
catch
if x
throw e
else
while less x 9
for i 0 mul 2 x
reduce s xor i
emit s
end
ask q min x 1
end
end
end
if nil
end
return max s q
end
func g y z
try e
catch
end
end
`
