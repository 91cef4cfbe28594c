package parse

import "speculate/api"

// stmtShape says which lines a kind of statement has. The first one begins with word; behind it stand a number, a name, the names of a function and of an operator, where the kind has them, and from least to most expressions. Statements with a body have further lines; between stands before Else.
type stmtShape struct {
	word                       string
	kind                       int
	number, name, function, op bool
	least, most                int
	body                       bool
	between                    string
}

var shapes = [...]stmtShape{
	{word: "set", kind: api.SAssign, name: true, least: 1, most: 1},
	{word: "store", kind: api.SStore, number: true, least: 2, most: 2},
	{word: "call", kind: api.SCall, name: true, function: true, most: api.MaxParams},
	{word: "if", kind: api.SIf, least: 1, most: 1, body: true, between: "else"},
	{word: "for", kind: api.SFor, name: true, least: 2, most: 2, body: true},
	{word: "while", kind: api.SWhile, least: 1, most: 1, body: true},
	{word: "return", kind: api.SReturn, least: 1, most: 1},
	{word: "throw", kind: api.SThrow, least: 1, most: 1},
	{word: "try", kind: api.STry, name: true, body: true, between: "catch"},
	{word: "emit", kind: api.SEmit, least: 1, most: 1},
	{word: "ask", kind: api.SAsk, name: true, least: 1, most: 1},
	{word: "reduce", kind: api.SReduce, name: true, op: true, least: 1, most: 1},
}

func shapeOfKind(kind int) (stmtShape, bool) {
	for _, s := range shapes {
		if s.kind == kind {
			return s, true
		}
	}
	return stmtShape{}, false
}

func shapeOfWord(word string) (stmtShape, bool) {
	for _, s := range shapes {
		if s.word == word {
			return s, true
		}
	}
	return stmtShape{}, false
}
