package parse_test

import (
	"strings"
	"testing"

	"speculate/api"
)

func TestPlaces(t *testing.T) {
	for _, c := range []struct {
		text string
		line int
	}{
		// outside a function
		{"set a 1", 1}, {"if 1", 1}, {"call r g", 1}, {"try e", 1}, {"end", 1}, {"else", 1}, {"catch", 1},
		{"func f,end,set a 1", 3}, {"func f,end,while 1", 3}, {"func f,end,else", 3}, {"func f,end,catch", 3}, {"func f,if 1,end,end,emit 1", 5},
		// a function within one
		{"func f,func g", 2}, {"func f,set a 1,func g", 3}, {"func f,if 1,func g", 3}, {"func f,if 1,else,func g", 4}, {"func f,try e,func g", 3}, {"func f,try e,catch,func g", 4}, {"func f,while 1,end,func g", 4}, {"func f,end,func g,func f", 4},
		// else and catch without their statement
		{"func f,else", 2}, {"func f,catch", 2}, {"func f,set a 1,else", 3}, {"func f,set a 1,catch", 3},
		{"func f,while 1,else", 3}, {"func f,while 1,catch", 3}, {"func f,for i 1 2,else", 3}, {"func f,for i 1 2,catch", 3},
		{"func f,if 1,catch", 3}, {"func f,if 1,set a 1,catch", 4}, {"func f,try e,else", 3}, {"func f,try e,set a 1,else", 4},
		{"func f,if 1,end,else", 4}, {"func f,try e,catch,end,catch", 5}, {"func f,if 1,while 1,else", 4}, {"func f,try e,while 1,catch", 4}, {"func f,try e,if 1,catch", 4}, {"func f,if 1,try e,else", 4},
		// twice, or at the wrong place
		{"func f,if 1,else,else", 4}, {"func f,if 1,else,set a 1,else", 5}, {"func f,if 1,set a 1,else,set a 1,else", 6}, {"func f,if 1,else,catch", 4}, {"func f,if 1,else,set a 1,catch", 5},
		{"func f,try e,catch,catch", 4}, {"func f,try e,catch,set a 1,catch", 5}, {"func f,try e,catch,else", 4}, {"func f,try e,catch,set a 1,else", 5},
		// an else with no statement behind it
		{"func f,if 1,else,end", 4}, {"func f,if 1,set a 1,else,end", 5}, {"func f,if 1,else,if 1,else,end", 6}, {"func f,if 1,if 1,end,else,end", 6}, {"func f,if 1,else,,,end", 6},
		// a try without a catch
		{"func f,try e,end", 3}, {"func f,try e,set a 1,end", 4}, {"func f,try e,try e,catch,end,end", 6},
		// end too often
		{"func f,end,end", 3}, {"func f,if 1,end,end,end", 5}, {"func f,set a 1,end,end", 4}, {"func f,end,func g,end,end", 5}, {"func f,try e,catch,end,end,end", 6},
	} {
		s := strings.ReplaceAll(c.text, ",", "\n")
		for _, behind := range []string{"", "\n", "\nend\n", "\nset a 1\nend\nend\n", "\nelse\ncatch\nfunc f\nend"} {
			wantError(t, s+behind, c.line, api.ErrSyntax)
		}
		wantError(t, "func first\nend\n"+s, c.line+2, api.ErrSyntax)
	}
}

func TestPlacesThatAreRight(t *testing.T) {
	for _, s := range []string{
		"func f,end", "func f,end,func g,end", "func f,if 1,end,end", "func f,if 1,else,set a 1,end,end", "func f,if 1,else,if 1,end,end,end", "func f,if 1,else,try e,catch,end,end,end",
		"func f,if 1,else,while 1,end,end,end", "func f,if 1,else,for i 1 2,end,set a 1,end,end", "func f,try e,catch,end,end", "func f,try e,set a 1,catch,end,end", "func f,try e,catch,set a 1,end,end",
		"func f,try e,if 1,else,emit 1,end,catch,if 1,else,emit 2,end,end,end", "func f,if 1,if 1,else,emit 1,end,else,emit 2,end,end", "func f,while 1,end,while 1,end,end,func g,end",
	} {
		wantPlainOK(t, strings.ReplaceAll(s, ",", "\n"))
	}
}

// TestElseBelongsToTheInmost checks to which statement an else and a catch belong.
func TestElseBelongsToTheInmost(t *testing.T) {
	branch := func(body, other []api.Stmt) api.Stmt {
		return api.Stmt{Kind: api.SIf, Exprs: many(1, number(1)), Body: body, Else: other}
	}
	try := func(body, other []api.Stmt) api.Stmt {
		return api.Stmt{Kind: api.STry, Name: "e", Body: body, Else: other}
	}
	a, b := many(1, assign("a", null())), many(1, assign("b", null()))
	wantProgram(t, inMain("if 1", "if 1", "else", "set a nil", "end", "end"), program(branch(many(1, branch(nil, a)), nil)))
	wantProgram(t, inMain("if 1", "if 1", "end", "else", "set a nil", "end"), program(branch(many(1, branch(nil, nil)), a)))
	wantProgram(t, inMain("if 1", "set b nil", "else", "if 1", "else", "set a nil", "end", "set b nil", "end"), program(branch(b, append(many(1, branch(nil, a)), b...))))
	wantProgram(t, inMain("try e", "try e", "set b nil", "catch", "set a nil", "end", "catch", "end"), program(try(many(1, try(b, a)), nil)))
	wantProgram(t, inMain("try e", "set a nil", "catch", "try e", "catch", "set a nil", "end", "set b nil", "end"), program(try(a, append(many(1, try(nil, a)), b...))))
}

func TestTextsThatEndTooEarly(t *testing.T) {
	for _, s := range []string{"", "\n", "\n\n\n", "func f", "func f\n", "func f\n\n", "func f\nset a 1\n", "func f\nset a 1", "func f\nif 1\nend\n", "func f\nif 1\nelse\n", "func f\nif 1\nelse", "func f\nif 1\nelse\nset a 1", "func f\ntry e", "func f\ntry e\ncatch", "func f\ntry e\ncatch\nend\n", "func f\nend\nfunc g", "func f\nend\nfunc g\nwhile 1\nend\n", "func f\nif 1\nwhile 1\nend\nend"} {
		wantError(t, s, 0, api.ErrSyntax)
	}
	// Every beginning of a text that ends before the last line does is no program.
	lines := strings.Split(strings.TrimSuffix(fullText, "\n"), "\n")
	for n := range len(lines) {
		want := api.ErrSyntax
		if strings.HasPrefix(lines[n], "func g") {
			want = api.OK
		}
		for _, end := range []string{"", "\n", "\n\n"} {
			if e := wantPlain(t, strings.Join(lines[:n], "\n")+end); e != want {
				t.Errorf("the first %d lines: %d", n, e)
			}
		}
	}
}

func TestEmptyLines(t *testing.T) {
	p := fullProgram(t)
	wantProgram(t, "\n\n\n"+fullText, p)
	wantProgram(t, fullText+"\n\n", p)
	wantProgram(t, strings.ReplaceAll(fullText, "\n", "\n\n"), p)
	wantProgram(t, "\n"+strings.ReplaceAll(fullText, "\n", "\n\n\n"), p)
	wantProgram(t, strings.TrimSuffix(fullText, "\n"), p)
	// A line of spaces is not empty, nor is one with a carriage return.
	for _, s := range []string{" ", "  ", "\t", "\r", "\x00", "\v"} {
		wantError(t, "func f\n"+s+"\nend\n", 2, api.ErrSyntax)
		wantError(t, s+"\nfunc f\nend\n", 1, api.ErrSyntax)
		wantError(t, "func f\nend\n"+s, 3, api.ErrSyntax)
	}
}

// TestAllShortTexts compares all texts of a few lines with the plain reading.
func TestAllShortTexts(t *testing.T) {
	lines := []string{"func f a", "end", "if 1", "else", "try e", "catch", "set a nil", "while a"}
	found := map[api.Errno]int{}
	var grow func(s string, left int)
	grow = func(s string, left int) {
		found[wantPlain(t, s)]++
		if left == 0 {
			return
		}
		for _, line := range lines {
			grow(s+line+"\n", left-1)
		}
	}
	grow("", 5)
	// Behind the first lines of a function most texts are not wrong at once.
	for _, s := range []string{"func f\nif 1\n", "func f\nif 1\nelse\n", "func f\ntry e\n", "func f\ntry e\nif 1\n", "func f\nif 1\nelse\nset a 1\n", "func f\nwhile 1\ntry e\ncatch\n", "func f\ntry e\ncatch\nset a 1\nif 1\nelse\n"} {
		grow(s, 5)
	}
	if found[api.OK] < 150 || found[api.ErrSyntax] < 200000 {
		t.Errorf("errors %v", found)
	}
}
