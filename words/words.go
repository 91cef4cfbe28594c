// Package words is layer 1, lines of words: see shared/doc/01-words.md.
package words

import (
	"strings"

	"speculate/api"
)

// A backslash and a byte of pairLetters stand for the byte at the same place of pairBytes.
const (
	pairLetters = `"\nr`
	pairBytes   = "\"\\\n\r"
)

// Split returns the words of a line.
func Split(s string) ([]string, api.Errno) {
	if len(s) > api.MaxLine {
		return nil, api.ErrLimit
	}
	l, ok := read(s)
	if !ok {
		return nil, api.ErrSyntax
	}
	if len(l) > api.MaxWords {
		return nil, api.ErrLimit
	}
	return l, api.OK
}

// Join returns the line with the words of l.
func Join(l []string) (string, api.Errno) {
	if len(l) > api.MaxWords {
		return "", api.ErrLimit
	}
	var line []byte
	for i, word := range l {
		// No word is written with fewer bytes than it has, so a long one need not be written to know that it does not fit.
		if len(word) > api.MaxLine {
			return "", api.ErrLimit
		}
		if i > 0 {
			line = append(line, ' ')
		}
		line = appendWord(line, word)
		if len(line) > api.MaxLine {
			return "", api.ErrLimit
		}
	}
	return string(line), api.OK
}

// Lines returns the lines of a text.
func Lines(s string) []string {
	var lines []string
	for s != "" {
		line, rest, _ := strings.Cut(s, "\n")
		// A result shares no memory with an argument.
		lines = append(lines, strings.Clone(line))
		s = rest
	}
	return lines
}

func appendWord(line []byte, word string) []byte {
	if isPlain(word) {
		return append(line, word...)
	}
	line = append(line, '"')
	for _, c := range []byte(word) {
		if letter, ok := swap(c, pairBytes, pairLetters); ok {
			line = append(line, '\\', letter)
		} else {
			line = append(line, c)
		}
	}
	return append(line, '"')
}

func isPlain(word string) bool {
	for _, c := range []byte(word) {
		if !isPlainByte(c) {
			return false
		}
	}
	return word != ""
}

func isPlainByte(c byte) bool {
	return c >= 33 && c <= 126 && c != '"' && c != '\\'
}

// swap returns the byte of to at the place at which from has c.
func swap(c byte, from, to string) (byte, bool) {
	i := strings.IndexByte(from, c)
	if i < 0 {
		return 0, false
	}
	return to[i], true
}
