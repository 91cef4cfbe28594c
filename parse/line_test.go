package parse_test

import (
	"slices"
	"strings"
	"testing"

	"speculate/api"
)

// statementLines are lines that can stand in a function, and what makes a statement of one that has others within it.
func statementLines() map[string]string {
	all := map[string]string{
		"if " + oneWords: "end", "if a": "end", "for i 0 10": "end", "for i " + oneWords + " " + oneWords: "end",
		"while " + oneWords: "end", "while nil": "end", "try e": "catch\nend",
	}
	for line := range simple() {
		all[line] = ""
	}
	return all
}

// inLine is the text of a function with a line and what completes it.
func inLine(line, rest string) string {
	if rest == "" {
		return inMain(line)
	}
	return inMain(line, rest)
}

// candidates are words that may stand in a line, right in some places and wrong in others.
func candidates() []string {
	l := strings.Fields("a b z9 abcdefghijklmnop abcdefghijklmnopq A 9a a_b aB ä nil field new func set store call if else for while return throw try catch emit ask reduce end - + -0 00 01 0 1 -1 7 15 16 17 9223372036854775807 9223372036854775808 -9223372036854775808 -9223372036854775809 1a 0x1 Add adds")
	return append(append(l, operators()...), `""`, `"a b"`, `"a"`, `"set"`, `"1"`, `"\n"`)
}

func TestLines(t *testing.T) {
	for line, rest := range statementLines() {
		wantPlainOK(t, inLine(line, rest))
	}
}

func wantPlainOK(t *testing.T, s string) {
	t.Helper()
	if e := wantPlain(t, s); e != api.OK {
		t.Fatalf("%q is no program: %d", brief(s), e)
	}
}

// TestLinesChanged takes each word of each line away, puts another one at its place, and another one before and behind it.
func TestLinesChanged(t *testing.T) {
	right, wrong := 0, 0
	check := func(l []string, rest string) {
		if wantPlain(t, inLine(strings.Join(l, " "), rest)) == api.OK {
			right++
		} else {
			wrong++
		}
	}
	for line, rest := range statementLines() {
		l := strings.Fields(line)
		for i := range l {
			check(slices.Delete(slices.Clone(l), i, i+1), rest)
			check(l[:i], rest)
			check(l[i:], rest)
			for _, word := range candidates() {
				check(slices.Replace(slices.Clone(l), i, i+1, word), rest)
				check(slices.Insert(slices.Clone(l), i, word), rest)
			}
		}
		for _, word := range candidates() {
			check(append(slices.Clone(l), word), rest)
		}
	}
	if right < 2500 || wrong < 30000 {
		t.Errorf("%d lines were right and %d wrong", right, wrong)
	}
}

// wantWrong checks lines that are errors wherever a statement can stand.
func wantWrong(t *testing.T, lines ...string) {
	t.Helper()
	for _, line := range lines {
		wantError(t, inMain(line), 2, api.ErrSyntax)
		wantError(t, inMain(line, "catch", "end"), 2, api.ErrSyntax)
		wantError(t, inMain("set a 1", "while a", line, "end"), 4, api.ErrSyntax)
		wantError(t, inMain("if a", "else", "set a 1", line, "end"), 5, api.ErrSyntax)
		wantError(t, inMain("try a", "catch", line, "end"), 4, api.ErrSyntax)
	}
}

func TestLinesWithoutAWord(t *testing.T) {
	for line := range statementLines() {
		l := strings.Fields(line)
		for i := range l {
			// A call may lose an expression, and without its first word new 1 is the expression 1.
			if l[i] != "new" && (l[0] != "call" || i < 3) {
				wantWrong(t, strings.Join(slices.Delete(slices.Clone(l), i, i+1), " "))
			}
		}
	}
}

func TestLinesWithAWordTooMuch(t *testing.T) {
	for line := range statementLines() {
		if !strings.HasPrefix(line, "call") {
			wantWrong(t, line+" a", line+" 1", line+" nil", line+" "+oneWords)
		}
		wantWrong(t, line+" end", line+" add", line+` ""`, "set "+line, "1 "+line, "a "+line, `"" `+line)
	}
	wantWrong(t, "end end", "end 1", "else else", "else a", "catch e", "catch catch", "else if a")
	wantError(t, "func f\nif a\nend a\nend\n", 3, api.ErrSyntax)
	wantError(t, "func f\nif a\nelse a\nset a 1\nend\nend\n", 3, api.ErrSyntax)
	wantError(t, "func f\ntry a\ncatch a\nend\nend\n", 3, api.ErrSyntax)
	wantError(t, "func f\nend f\n", 2, api.ErrSyntax)
}

func TestUnknownLines(t *testing.T) {
	wantWrong(t, "hello", "nil", "1", "add", "add 1 2", "field 0 a", "new 1", "a 1", "sets a 1", "Set a 1", "SET a 1", "set1 a 1", "=", `""`, `"set a 1"`, `"set a" 1`, "assign a 1", "fields 0 a", "ends", "break", "store1 0 a b", "1 2 3", `"\n"`)
}

func TestFunctionLines(t *testing.T) {
	wantFunction := func(line, name string, params ...string) {
		t.Helper()
		f := function(name)
		f.Params = params
		wantProgram(t, text(line, "end"), of(f))
		wantError(t, text(line), 0, api.ErrSyntax)
	}
	wantFunction("func f", "f")
	wantFunction(`"func" "f"`, "f")
	wantFunction("func f a", "f", "a")
	wantFunction("func f f", "f", "f")
	wantFunction("func f a b c d", "f", "a", "b", "c", "d")
	wantFunction("func f a a z9 a", "f", "a", "a", "z9", "a")
	wantFunction("func abcdefghijklmnop", "abcdefghijklmnop")
	for _, word := range candidates() {
		for _, line := range []string{word, word + " f", "func " + word, "func f " + word, "func f a " + word, "func f " + word + " b"} {
			wantPlain(t, text(line, "end"))
			wantPlain(t, text("func main", "end", line, "end"))
		}
	}
	for _, line := range []string{"func", "func F", "func 1", "func f 1", "func f A", "func f a 1", "func f a end", "func func", "func f func g", "func f abcdefghijklmnopq", "func end", "func add", `func ""`, `func f ""`, "function f", "f", "f func", "Func f", "end", "main", "nil", "0"} {
		wantError(t, text(line, "end"), 1, api.ErrSyntax)
		wantError(t, text("func main", "end", line, "end"), 3, api.ErrSyntax)
	}
}

// notNames are words that are no names.
func notNames() []string {
	return strings.Fields(`A aB a_b 1a 7 -1 - abcdefghijklmnopq ä "" "a b" "\n" nil field new func set store call if else for while return throw try catch emit ask reduce end add equal`)
}

func TestNames(t *testing.T) {
	for line, rest := range map[string]string{
		"set _ 1": "", "call _ f": "", "call r _": "", "call _ f 1": "", "call r _ 1": "", "for _ 1 2": "end", "try _": "catch\nend", "ask _ 1": "", "reduce _ add 1": "",
	} {
		for _, name := range notNames() {
			wantWrong(t, strings.ReplaceAll(line, "_", name))
		}
		for _, name := range []string{"a", "z9", "abcdefghijklmnop", "ends", `"a"`} {
			wantPlainOK(t, inLine(strings.ReplaceAll(line, "_", name), rest))
		}
	}
	// No other word is a variable either.
	for _, name := range strings.Fields(`A aB a_b 1a - abcdefghijklmnopq ä "" "\n" func set store call if else for while return throw try catch emit ask reduce end`) {
		wantWrong(t, "set a "+name, "emit add 1 "+name, "emit add "+name+" 1", "while field 1 "+name, "call r g "+name, "call r g 1 "+name, "for i "+name+" 1", "for i 1 "+name, "store 0 "+name+" a", "store 0 a "+name)
	}
}

func TestNumbers(t *testing.T) {
	for word, n := range map[string]int64{"0": 0, "1": 1, "-1": -1, "10": 10, "-100": -100, "9223372036854775807": most, "-9223372036854775808": least} {
		wantBoth(t, program(assign("a", number(n))), inMain("set a "+word))
		wantBoth(t, program(assign("a", binary(api.OpAdd, number(n), number(n)))), inMain("set a add "+word+" "+word))
	}
	for _, word := range []string{"-", "+", "+1", "-0", "00", "01", "-01", "1a", "1.0", "0x1", "1_0", "--1", "1-", `"1 "`, `" 1"`, "9223372036854775808", "-9223372036854775809", strings.Repeat("9", 100), "-" + strings.Repeat("9", 100)} {
		wantWrong(t, "set a "+word, "set a add 1 "+word, "emit add "+word+" 1", "call r f "+word, "set a field "+word+" b", "set a new "+word, "store "+word+" a b")
	}
}

// TestRanges checks the numbers of store, field and new, which have ranges, at both ends.
func TestRanges(t *testing.T) {
	for n := range int64(api.MaxFields) {
		wantBoth(t, program(assign("a", field(n, null()))), inMain("set a field "+number10(n)+" nil"))
		wantBoth(t, program(api.Stmt{Kind: api.SStore, N: n, Exprs: many(2, null())}), inMain("store "+number10(n)+" nil nil"))
		wantBoth(t, program(assign("a", created(n))), inMain("set a new "+number10(n)))
	}
	wantBoth(t, program(assign("a", created(api.MaxFields))), inMain("set a new 16"))
	for _, n := range []int64{-1, 16, 17, 100, 1 << 32, 1<<32 + 1, least, most} {
		word := number10(n)
		wantWrong(t, "set a field "+word+" nil", "store "+word+" nil nil", "set a add 1 field "+word+" nil", "set a field 1 field "+word+" b")
		if n != api.MaxFields {
			wantWrong(t, "set a new "+word, "set a add 1 new "+word, "set a field 1 new "+word)
		}
	}
	wantWrong(t, "set a field a 1", "set a field nil nil", "set a field add 1", "set a field", "set a field 1", "set a new", "set a new a", "set a new nil", "store a 1 2", "store 0 1", "store 0", "store", "store nil nil nil")
}

func TestOperators(t *testing.T) {
	for i, name := range operators() {
		wantBoth(t, program(assign("a", binary(i+1, number(1), number(2)))), inMain("set a "+name+" 1 2"))
		wantBoth(t, program(api.Stmt{Kind: api.SReduce, Name: "a", Op: i + 1, Exprs: many(1, number(2))}), inMain("reduce a "+name+" 2"))
		wantWrong(t, "set a "+name, "set a "+name+" 1", "set a "+name+" 1 2 3", "reduce a "+name, "reduce a "+name+" 1 2", "reduce "+name+" a 1", "set "+name+" 1", "emit "+name+" "+name+" 1 2", name+" 1 2", "set a 1 "+name+" 2")
	}
	wantWrong(t, "reduce a b 1", "reduce a 1 1", "reduce a nil 1", "reduce a", "reduce", "reduce a Add 1", "reduce a + 1", `reduce a "" 1`, "reduce a field 1 b", "set a mod 1 2", "set a plus 1 2", "set a not 1", "set a greater 1 2")
}

func TestCalls(t *testing.T) {
	for _, word := range []string{"1", "nil", oneWords, "field 0 new 3", "a"} {
		e, _, _ := plainParse(inMain("set x " + word))
		one := e.Funcs[0].Body[0].Exprs[0]
		for n := range api.MaxParams + 1 {
			s := api.Stmt{Kind: api.SCall, Name: "r", Func: "g", Exprs: many(n, one)}
			wantBoth(t, program(s), inMain("call r g"+strings.Repeat(" "+word, n)))
		}
		for n := api.MaxParams + 1; n < 8; n++ {
			wantWrong(t, "call r g"+strings.Repeat(" "+word, n))
		}
	}
	wantWrong(t, "call", "call r", "call 1 g", "call r 1", "call r nil", "call r g add", "call r g add 1", "call r g 1 2 3 4 field 1", "call r g 1 2 3 field 1")
}

// TestExpressionSizes checks expressions of as many nodes as there may be, and of one more, in each place of each line.
func TestExpressionSizes(t *testing.T) {
	for _, full := range []string{
		strings.Repeat("field 1 ", 15) + "a", strings.Repeat("field 15 ", 15) + "new 16", strings.Repeat("add 1 ", 7) + "field 0 nil",
		strings.Repeat("add ", 7) + "field 0 1" + strings.Repeat(" 2", 7), "add " + strings.Repeat("field 0 ", 6) + "1 " + strings.Repeat("field 0 ", 7) + "1",
	} {
		for _, line := range []string{"set a _", "if _", "while _", "emit _", "throw _", "return _", "ask q _", "reduce a add _", "for i _ 1", "for i 1 _", "for i _ _", "store 0 _ 1", "store 0 1 _", "store 1 _ _", "call r g _", "call r g 1 _", "call r g 1 1 _ 1", "call r g _ _ _ _"} {
			rest := map[string]string{"if": "end", "fo": "end", "wh": "end"}[line[:2]]
			wantPlainOK(t, inLine(strings.ReplaceAll(line, "_", full), rest))
			wantWrong(t, strings.ReplaceAll(line, "_", "field 3 "+full), strings.ReplaceAll(line, "_", "field 3 field 4 "+full), strings.Replace(line, "_", "add 1 "+full, 1))
		}
	}
	balanced := "add add add 1 2 add 3 4 add add 5 6 add 7 8"
	wantPlainOK(t, inMain("set a "+balanced))
	wantPlainOK(t, inMain("set a field 1 "+balanced))
	wantPlainOK(t, inMain("call r g field 1 "+balanced+strings.Repeat(" field 2 "+balanced, 3)))
	wantWrong(t, "set a field 1 field 1 "+balanced, "set a add 0 "+balanced, "set a add "+balanced+" 0", "call r g 1 field 1 field 1 "+balanced)
}

// TestExpressionsInLines checks the words of expressions, one within another, in a line.
func TestExpressionsInLines(t *testing.T) {
	for inner, e := range leaves() {
		for outer, with := range around() {
			words := strings.Replace(outer, "_", inner, 1)
			wantBoth(t, program(assign("a", with(e))), inMain("set a "+words))
			wantBoth(t, program(api.Stmt{Kind: api.SStore, N: 2, Exprs: []api.Expr{with(e), with(with(e))}}), inMain("store 2 "+words+" "+strings.Replace(outer, "_", words, 1)))
		}
	}
}
