package words

type state int

const (
	beforeWord state = iota
	inPlain
	inQuoted
	inPair      // behind a backslash
	behindQuote // behind the quote that ends a word
	notLine
)

// reader is the state machine that reads a line byte by byte.
type reader struct {
	state state
	word  []byte
	words []string
}

// read returns the words of s, and whether s is a line.
func read(s string) ([]string, bool) {
	if s == "" {
		return nil, true
	}
	r := reader{}
	for _, c := range []byte(s) {
		r.state = r.next(c)
		if r.state == notLine {
			return nil, false
		}
	}
	if r.state != inPlain && r.state != behindQuote {
		return nil, false
	}
	r.end()
	return r.words, true
}

func (r *reader) next(c byte) state {
	switch r.state {
	case beforeWord:
		if c == '"' {
			return inQuoted
		}
		return r.plain(c)
	case inPlain:
		if c == ' ' {
			return r.end()
		}
		return r.plain(c)
	case inQuoted:
		return r.quoted(c)
	case inPair:
		return r.pair(c)
	case behindQuote:
		if c == ' ' {
			return r.end()
		}
	}
	return notLine
}

func (r *reader) plain(c byte) state {
	if !isPlainByte(c) {
		return notLine
	}
	return r.keep(c, inPlain)
}

func (r *reader) quoted(c byte) state {
	switch c {
	case '"':
		return behindQuote
	case '\\':
		return inPair
	case '\n', '\r':
		return notLine
	}
	return r.keep(c, inQuoted)
}

func (r *reader) pair(c byte) state {
	meant, ok := swap(c, pairLetters, pairBytes)
	if !ok {
		return notLine
	}
	return r.keep(meant, inQuoted)
}

func (r *reader) keep(c byte, then state) state {
	r.word = append(r.word, c)
	return then
}

func (r *reader) end() state {
	r.words = append(r.words, string(r.word))
	r.word = r.word[:0]
	return beforeWord
}
