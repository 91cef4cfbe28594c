package parse_test

import (
	"strings"
	"testing"

	"speculate/api"
	"speculate/parse"
)

func TestTextLimit(t *testing.T) {
	for _, filler := range []string{"\n", "a", "\"", "func f\n", "\x00", "func f\nend\n"} {
		long := strings.Repeat(filler, api.MaxText/len(filler)+1)
		for _, n := range []int{api.MaxText + 1, api.MaxText + 2} {
			s := long + long
			wantError(t, s[:n], 0, api.ErrLimit)
		}
	}
	p := program(assign("a", one()))
	s := inMain("set a " + oneWords)
	wantProgram(t, s+strings.Repeat("\n", api.MaxText-len(s)), p)
	wantProgram(t, strings.Repeat("\n", api.MaxText-len(s))+s, p)
	wantError(t, s+strings.Repeat("\n", api.MaxText+1-len(s)), 0, api.ErrLimit)
	wantError(t, strings.Repeat("\n", api.MaxText+1-len(s))+s, 0, api.ErrLimit)
	wantError(t, strings.Repeat("\n", api.MaxText), 0, api.ErrSyntax)
	wantError(t, strings.Repeat("a", api.MaxText), 1, api.ErrLimit)
	wantError(t, strings.Repeat("\n", api.MaxText-1)+"x", api.MaxText, api.ErrSyntax)
}

// TestSplitErrors checks that the errors of words.Split come before what a line means or where it stands.
func TestSplitErrors(t *testing.T) {
	long := strings.Repeat("a", api.MaxLine+1)
	wide := strings.Repeat("a ", api.MaxWords) + "a"
	for _, c := range []struct {
		line string
		want api.Errno
	}{
		{long, api.ErrLimit}, {"set a " + long, api.ErrLimit}, {strings.Repeat(" ", api.MaxLine+1), api.ErrLimit}, {"\"" + long, api.ErrLimit},
		{wide, api.ErrLimit}, {"set " + wide, api.ErrLimit}, {"func " + wide, api.ErrLimit}, {strings.Repeat("1 ", api.MaxWords) + "1", api.ErrLimit},
		{wide + " ", api.ErrSyntax}, {wide[2:], api.ErrSyntax}, {long[1:], api.ErrSyntax},
		{" set a 1", api.ErrSyntax}, {"set a 1 ", api.ErrSyntax}, {"set  a 1", api.ErrSyntax}, {"set a 1\r", api.ErrSyntax}, {"set\ta 1", api.ErrSyntax},
		{"\"set a 1", api.ErrSyntax}, {"set a \"1", api.ErrSyntax}, {"set a \\1", api.ErrSyntax}, {"set a \"\\x\"", api.ErrSyntax}, {"set\x00 a 1", api.ErrSyntax}, {"set é 1", api.ErrSyntax},
		{" end", api.ErrSyntax}, {"end ", api.ErrSyntax}, {" ", api.ErrSyntax},
	} {
		wantError(t, c.line, 1, c.want)
		wantError(t, "func f\nend\n"+c.line, 3, c.want)
		wantError(t, inMain(c.line), 2, c.want)
		wantError(t, inMain("", "", "if 1", "else", "", c.line, "set a 1", "end"), 7, c.want)
		wantError(t, "func f\ntry e\ncatch\n"+c.line+"\n", 4, c.want)
	}
	// A line of 256 words or 4096 bytes is not too long.
	wantError(t, "func f "+strings.Repeat("a ", api.MaxWords-3)+"a\nend\n", 0, api.ErrLimit)
	wantError(t, "func f "+strings.Repeat("a ", api.MaxWords-2)+"a\nend\n", 1, api.ErrLimit)
	name := strings.Repeat("abcdefghijklmnop ", 240)
	wantError(t, "func f "+name[:len(name)-1]+"\nend\n", 0, api.ErrLimit)
}

// TestLineNumbers puts a wrong line in each place of a text.
func TestLineNumbers(t *testing.T) {
	lines := strings.Split(strings.TrimSuffix(fullText, "\n"), "\n")
	for i := range len(lines) + 1 {
		before := strings.Join(lines[:i], "\n")
		if i > 0 {
			before += "\n"
		}
		after := strings.Join(lines[i:], "\n")
		for _, wrong := range []string{"hello", "set a", "\"", " ", "end end"} {
			wantError(t, before+wrong+"\n"+after, i+1, api.ErrSyntax)
			wantError(t, before+"\n\n"+wrong+"\n"+after, i+3, api.ErrSyntax)
			wantError(t, "\n"+strings.ReplaceAll(before, "\n", "\n\n")+wrong+"\n"+after, 2*i+2, api.ErrSyntax)
			wantError(t, before+wrong+"\n"+strings.Repeat("x", api.MaxLine+1), i+1, api.ErrSyntax)
		}
		wantError(t, before+strings.Repeat("x", api.MaxLine+1)+"\nhello\n"+after, i+1, api.ErrLimit)
	}
}

func TestFirstError(t *testing.T) {
	long := strings.Repeat("a", api.MaxLine+1)
	tooLong := strings.Repeat("\n", api.MaxText)
	// the length of the text before any line
	wantError(t, "hello\n"+tooLong, 0, api.ErrLimit)
	wantError(t, long+"\n"+tooLong, 0, api.ErrLimit)
	// the first line with an error before later ones
	wantError(t, "func f\nhello\n"+long, 2, api.ErrSyntax)
	wantError(t, "func f\n"+long+"\nhello", 2, api.ErrLimit)
	wantError(t, "end\nfunc 1\n", 1, api.ErrSyntax)
	// a line before the end of the text
	wantError(t, "func f\nset a\n", 2, api.ErrSyntax)
	wantError(t, "set a 1", 1, api.ErrSyntax)
	// a line and the end of the text before the limits of the program
	params := "func f a b c d e\n"
	wantError(t, params+"end\nend\n", 3, api.ErrSyntax)
	wantError(t, params+"end\n"+long, 3, api.ErrLimit)
	wantError(t, params, 0, api.ErrSyntax)
	wantError(t, params+"set a 1\n", 0, api.ErrSyntax)
	wantError(t, params+"end\n", 0, api.ErrLimit)
	functions := strings.Repeat("func f\nend\n", api.MaxFuncs+1)
	wantError(t, functions, 0, api.ErrLimit)
	wantError(t, functions+"func f\n", 0, api.ErrSyntax)
	wantError(t, functions+"func f\nset a\n", 2*api.MaxFuncs+4, api.ErrSyntax)
	deep := "func f\n" + strings.Repeat("if 1\n", 10)
	wantError(t, deep+strings.Repeat("end\n", 10), 0, api.ErrSyntax)
	wantError(t, deep+strings.Repeat("end\n", 11), 0, api.ErrLimit)
	wantError(t, deep+strings.Repeat("end\n", 12), 23, api.ErrSyntax)
}

// TestProgramLimits checks programs that are at the limits of source.Shaped, and beyond one of them.
func TestProgramLimits(t *testing.T) {
	wantLimit := func(n, limit int, s string) {
		t.Helper()
		if n <= limit {
			wantPlainOK(t, s)
		} else {
			wantError(t, s, 0, api.ErrLimit)
		}
	}
	for n := 1; n <= 40; n++ {
		wantLimit(n, api.MaxFuncs, strings.Repeat("func f a\nset a 1\nend\n", n))
		wantLimit(n, api.MaxParams, "func f"+strings.Repeat(" a", n)+"\nend\n")
		wantLimit(n, api.MaxParams, "func g\nend\nfunc f"+strings.Repeat(" a", n)+"\nend\n")
		wantLimit(n, api.MaxNest, "func f\n"+strings.Repeat("while 1\n", n)+strings.Repeat("end\n", n)+"end\n")
		wantLimit(n, api.MaxNest, "func f\n"+strings.Repeat("if 1\nelse\n", n-1)+"set a 1\n"+strings.Repeat("end\n", n-1)+"end\n")
		wantLimit(n, api.MaxNest, "func f\n"+strings.Repeat("try e\ncatch\n", n)+strings.Repeat("end\n", n)+"end\n")
		wantLimit(2*n, api.MaxStmts, "func f\n"+strings.Repeat("while 1\nset a 1\nend\n", n)+"end\n")
		wantLimit(2*n, api.MaxStmts, strings.Repeat("func f\n"+strings.Repeat("set a 1\n", n)+"end\n", 2))
		wantLimit(32+n, api.MaxStmts, "func f\n"+strings.Repeat("set a 1\n", 32+n)+"end\n")
	}
}

// TestLargeTexts checks texts of very many lines, which are beyond the limits of a program.
func TestLargeTexts(t *testing.T) {
	deep := api.MaxText/len("if 1\nend\n") - 2
	wantError(t, "func f\n"+strings.Repeat("if 1\n", deep)+strings.Repeat("end\n", deep)+"end\n", 0, api.ErrLimit)
	wantError(t, "func f\n"+strings.Repeat("if 1\n", deep)+strings.Repeat("end\n", deep), 0, api.ErrSyntax)
	wantError(t, "func f\n"+strings.Repeat("if 1\n", deep)+strings.Repeat("end\n", deep)+"end\nx\n", 2*deep+3, api.ErrSyntax)
	wantError(t, "func f\n"+strings.Repeat("emit 1\n", 30000)+"end\n", 0, api.ErrLimit)
	wantError(t, strings.Repeat("func f\nend\n", 20000), 0, api.ErrLimit)
	wantError(t, "func f\n"+strings.Repeat("set a "+strings.Repeat("field 1 ", 15)+"a\n", 1800)+"end\n", 0, api.ErrLimit)
	wantError(t, "func f\nset a "+strings.Repeat("add ", 254)+"\nend\n", 2, api.ErrSyntax)
	wantError(t, "func f\nset a"+strings.Repeat(" field 1", 127)+"\nend\n", 2, api.ErrSyntax)
}

func TestErrorsHaveNoProgram(t *testing.T) {
	for _, s := range []string{"", "func f\nend\nend", "func f a b c d e\nend", "func f\nset a 1\n", strings.Repeat("\n", api.MaxText+1)} {
		if p, _, e := parse.Parse(s); p.Funcs != nil || e == api.OK {
			t.Errorf("Parse(%q) = %s, %d", brief(s), brief(p), e)
		}
	}
}
