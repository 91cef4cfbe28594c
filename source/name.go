package source

import (
	"speculate/api"
	"speculate/value"
)

// Name reports whether s is a name.
func Name(s string) bool {
	if s == "" || len(s) > api.MaxName || !isLetter(s[0]) {
		return false
	}
	for _, c := range []byte(s) {
		if !isLetter(c) && !isDigit(c) {
			return false
		}
	}
	return !isReserved(s)
}

func isLetter(c byte) bool { return 'a' <= c && c <= 'z' }

func isDigit(c byte) bool { return '0' <= c && c <= '9' }

// isReserved reports whether s is a word of the language.
func isReserved(s string) bool {
	switch s {
	case "nil", "field", "new", "func", "set", "store", "call", "if", "else", "for", "while",
		"return", "throw", "try", "catch", "emit", "ask", "reduce", "end":
		return true
	}
	_, operator := value.Op(s)
	return operator
}
