package words_test

import (
	"regexp"
	"slices"
	"strings"
	"testing"

	"speculate/api"
	"speculate/words"
)

func wantWords(t *testing.T, s string, want ...string) {
	t.Helper()
	if l, e := words.Split(s); e != api.OK || !slices.Equal(l, want) {
		t.Errorf("Split(%.40q) = %.80q, %d; want %.80q", s, l, e, want)
	}
}

func wantNoWords(t *testing.T, s string, want api.Errno) {
	t.Helper()
	if l, e := words.Split(s); e != want || len(l) != 0 {
		t.Errorf("Split(%.40q) = %.80q, %d; want error %d", s, l, e, want)
	}
}

func TestSplitOrdinary(t *testing.T) {
	wantWords(t, "")
	wantWords(t, "set", "set")
	wantWords(t, "set a add 1 2", "set", "a", "add", "1", "2")
	wantWords(t, `set "a b" 3`, "set", "a b", "3")
	wantWords(t, `""`, "")
	wantWords(t, `"" ""`, "", "")
	wantWords(t, `a ""`, "a", "")
	wantWords(t, `"" a`, "", "a")
	wantWords(t, `"a" "b"`, "a", "b")
	wantWords(t, `" "`, " ")
	wantWords(t, `"  a  "`, "  a  ")
	wantWords(t, `! ~ # -`, "!", "~", "#", "-")
}

func TestSplitPairs(t *testing.T) {
	wantWords(t, `"\""`, `"`)
	wantWords(t, `"\\"`, `\`)
	wantWords(t, `"\n"`, "\n")
	wantWords(t, `"\r"`, "\r")
	wantWords(t, `"\"\\\n\r"`, "\"\\\n\r")
	wantWords(t, `"a\\n" n`, `a\n`, "n")
	wantWords(t, `"\\\""`, `\"`)
}

func TestSplitEveryByte(t *testing.T) {
	meant := map[byte]string{'"': `"`, '\\': `\`, 'n': "\n", 'r': "\r"}
	for i := range 256 {
		c := byte(i)
		s := string([]byte{c})
		if c > 32 && c < 127 && c != '"' && c != '\\' {
			wantWords(t, s, s)
			wantWords(t, "a"+s, "a"+s)
		} else {
			wantNoWords(t, s, api.ErrSyntax)
			wantNoWords(t, "a"+s, api.ErrSyntax)
		}
		if c == '"' || c == '\\' || c == 10 || c == 13 {
			wantNoWords(t, `"`+s+`"`, api.ErrSyntax)
		} else {
			wantWords(t, `"`+s+`"`, s)
		}
		if m, ok := meant[c]; ok {
			wantWords(t, `"\`+s+`"`, m)
		} else {
			wantNoWords(t, `"\`+s+`"`, api.ErrSyntax)
		}
		if c != ' ' {
			wantNoWords(t, `"a"`+s+"b", api.ErrSyntax)
		}
	}
}

func TestSplitNoLine(t *testing.T) {
	for _, s := range []string{
		" ", "  ", " a", "a ", "a  b", ` ""`, `"" `, `""  ""`, "\n", "a\n", "a\r", "a\tb",
		`"`, `"a`, `a"`, `a"b`, `a"b"`, `"a"b`, `"a""b"`, `"""`, `"\`, `"\"`, `\`, `\n`, `a\\`, `"\a"`, `"\N"`, `"\0"`, "\"\\\n\"",
	} {
		wantNoWords(t, s, api.ErrSyntax)
	}
}

func TestSplitLimits(t *testing.T) {
	long := strings.Repeat("a", api.MaxLine)
	wantWords(t, long, long)
	wantNoWords(t, long+"a", api.ErrLimit)

	inner := strings.Repeat(" ", api.MaxLine-2)
	wantWords(t, `"`+inner+`"`, inner)
	wantNoWords(t, `"`+inner+` "`, api.ErrLimit)

	most := slices.Repeat([]string{"a"}, api.MaxWords)
	wantWords(t, strings.Join(most, " "), most...)
	wantNoWords(t, strings.Join(most, " ")+" a", api.ErrLimit)
	wantNoWords(t, strings.Join(most, " ")+` ""`, api.ErrLimit)

	empty := slices.Repeat([]string{""}, api.MaxWords)
	wantWords(t, strings.Repeat(`"" `, api.MaxWords-1)+`""`, empty...)
	wantNoWords(t, strings.Repeat(`"" `, api.MaxWords)+`""`, api.ErrLimit)
}

func TestSplitFirstError(t *testing.T) {
	wantNoWords(t, strings.Repeat(" ", api.MaxLine), api.ErrSyntax)
	wantNoWords(t, strings.Repeat(" ", api.MaxLine+1), api.ErrLimit)
	many := strings.Repeat("a ", api.MaxWords+1)
	wantNoWords(t, many, api.ErrSyntax)
	wantNoWords(t, many+`"`, api.ErrSyntax)
	wantNoWords(t, many+"a\n", api.ErrSyntax)
	wantNoWords(t, " "+many+"a", api.ErrSyntax)
	wantNoWords(t, strings.Repeat("a ", api.MaxLine/2), api.ErrSyntax)
	wantNoWords(t, strings.Repeat("a ", api.MaxLine/2)+"a", api.ErrLimit)
}

// everyString calls do with all strings of up to n bytes of alphabet.
func everyString(alphabet string, n int, do func(string)) {
	var add func(string)
	add = func(s string) {
		do(s)
		if len(s) == n {
			return
		}
		for i := range len(alphabet) {
			add(s + alphabet[i:i+1])
		}
	}
	add("")
}

// TestSplitGrammar compares Split with the grammar of the chapter.
func TestSplitGrammar(t *testing.T) {
	const word = `(?:[!#-\[\]-~]+|"(?:[^"\\\n\r]|\\["\\nr])*")`
	line := regexp.MustCompile(`\A(?:` + word + `(?: ` + word + `)*)?\z`)
	one := regexp.MustCompile(word)
	pairs := strings.NewReplacer(`\"`, `"`, `\\`, `\`, `\n`, "\n", `\r`, "\r")
	everyString("an \"\\\n", 6, func(s string) {
		if !line.MatchString(s) {
			wantNoWords(t, s, api.ErrSyntax)
			return
		}
		want := one.FindAllString(s, -1)
		for i, w := range want {
			if w[0] == '"' {
				want[i] = pairs.Replace(w[1 : len(w)-1])
			}
		}
		wantWords(t, s, want...)
	})
}

// TestSplitApart checks that what is done to one result does not show in another.
func TestSplitApart(t *testing.T) {
	const s = `one "two two" three`
	a, _ := words.Split(s)
	clear(a)
	wantWords(t, s, "one", "two two", "three")
}

func FuzzSplit(f *testing.F) {
	for _, s := range []string{"", "a", `a "" "b\"\\\n\r"`, "a  b", `"`, "\"\x00\xff\"", "\x80", strings.Repeat("a ", 300)} {
		f.Add(s)
	}
	f.Fuzz(func(t *testing.T, s string) {
		l, e := words.Split(s)
		if e != api.OK {
			if len(l) != 0 || e != api.ErrLimit && e != api.ErrSyntax {
				t.Errorf("Split(%q) = %q, %d", s, l, e)
			}
			return
		}
		line, e := words.Join(l)
		if e != api.OK || len(line) > len(s) {
			t.Errorf("Join(%q) = %q, %d", l, line, e)
		}
		wantWords(t, line, l...)
	})
}
