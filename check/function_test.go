package check_test

import (
	"fmt"
	"slices"
	"strings"
	"testing"

	"speculate/api"
)

func TestRightFunctions(t *testing.T) {
	wantText(t, "func main; end", 0, api.OK)
	wantText(t, written(others()...), 0, api.OK)
	wantFunc(t, function("f"), api.OK)
	wantFunc(t, function("f a b c d", "return add a b"), api.OK)
}

// TestNameOfAnEarlierFunction has a name twice in every two places, and in three.
func TestNameOfAnEarlierFunction(t *testing.T) {
	for n := 2; n <= api.MaxFuncs; n++ {
		for i := range n {
			for j := range i {
				names := distinct(n)
				names[i] = names[j]
				wantCheck(t, named(names...), i, api.ErrExists)
				if i+2 < n {
					names[i+2] = names[j]
					wantCheck(t, named(names...), i, api.ErrExists)
					names[i+1] = names[j]
					wantCheck(t, named(names...), i, api.ErrExists)
				}
			}
		}
		wantCheck(t, named(distinct(n)...), 0, api.OK)
		wantCheck(t, named(many(n, "f")...), 1, api.ErrExists)
	}
	wantCheck(t, named("f", "g", "g", "f"), 2, api.ErrExists)
	wantCheck(t, named("f", "g", "f", "g"), 2, api.ErrExists)
}

func distinct(n int) []string {
	var names []string
	for i := range n {
		names = append(names, fmt.Sprint("f", i))
	}
	return names
}

// TestNamesThatAreAlike checks that only the same name is one that exists, and only that of a function.
func TestNamesThatAreAlike(t *testing.T) {
	wantCheck(t, named("f", "ff", "fff", "f1", "f10", "f01", "abcdefghijklmnop", "abcdefghijklmnoq", "bbcdefghijklmnop"), 0, api.OK)
	wantText(t, "func f; set f 1; set g 2; emit f; end; func g g f; set g f; end; func h g; emit g; end", 0, api.OK)
	wantText(t, "func f; end; func g a; end; func a g; end", 0, api.OK)
	wantText(t, "func f; call f g; call g f; end; func g; end", 0, api.OK)
}

// TestBodiesOfTheSameName checks that functions are the same by their names alone.
func TestBodiesOfTheSameName(t *testing.T) {
	wantText(t, "func f; end; func f a; emit a; end", 1, api.ErrExists)
	wantText(t, "func f; end; func g a; emit a; end; func g b c; set d 1; end", 2, api.ErrExists)
	wantText(t, "func f; end; func g a; emit a; end; func h a; emit a; end", 0, api.OK)
}

// TestParamsTwice has a parameter twice in every two places, in every function but the first.
func TestParamsTwice(t *testing.T) {
	for n := 2; n <= api.MaxParams; n++ {
		for i := range n {
			for j := range i {
				params := strings.Fields("a b c d")[:n]
				params[i] = params[j]
				wantFunc(t, function("f "+strings.Join(params, " ")), api.ErrExists)
				wantFunc(t, function("f "+strings.Join(params, " "), "emit b", "set b a"), api.ErrExists)
				// The first function must not have parameters, but what is there twice comes first.
				wantText(t, "func main "+strings.Join(params, " ")+"; end; func g; end", 0, api.ErrExists)
			}
		}
		wantFunc(t, function("f "+strings.Join(many(n, "a"), " ")), api.ErrExists)
	}
	wantFunc(t, function("f a b b a"), api.ErrExists)
}

// TestParamsOnce has names in several other places than the parameters of one function.
func TestParamsOnce(t *testing.T) {
	wantFunc(t, function("f a aa b abcdefghijklmnop"), api.OK)
	wantFunc(t, function("f f"), api.OK)
	wantFunc(t, function("f none p q r"), api.OK)
	wantFunc(t, function("f a b", "set a 1", "for b a b", "set a b", "end", "call a one a", "try b", "catch", "end"), api.OK)
	wantText(t, "func main; end; func f a b; end; func g b a; end; func h a b; end", 0, api.OK)
}

func TestParamsOfTheFirst(t *testing.T) {
	for n := 1; n <= api.MaxParams; n++ {
		params := strings.Join(strings.Fields("a b c d")[:n], " ")
		wantText(t, "func main "+params+"; end", 0, api.ErrArity)
		wantText(t, "func main "+params+"; return a; end; func g a; end", 0, api.ErrArity)
		wantText(t, "func main "+params+"; return a; end; func g; call r main"+strings.Repeat(" 1", n)+"; end", 0, api.ErrArity)
		wantText(t, "func main "+params+"; call r main"+strings.Repeat(" 1", n)+"; end", 0, api.ErrArity)
		wantText(t, "func other; end; func main "+params+"; return a; end", 0, api.OK)
		wantText(t, "func other; end; func f; end; func main "+params+"; return a; end", 0, api.OK)
	}
}

// writers are lines that give a value to the variable V, and write no other one.
func writers() map[string]string {
	return map[string]string{
		"assign": "set V 1", "call": "call V none", "for": "for V 1 2; end", "try": "try V; catch; end", "ask": "ask V 1", "reduce": "reduce V add 1",
		"in if": "if 1; set V 1; end", "in else": "if 1; else; set V 1; end", "in while": "while 1; ask V 1; end", "deep": "while 1; while 1; if 1; else; call V none; end; end; end",
	}
}

// writing are the lines of so many variables, which begin with the letter v.
func writing(writer string, from, to int) []string {
	var lines []string
	for i := from; i < to; i++ {
		lines = append(lines, strings.ReplaceAll(writer, "V", fmt.Sprint("v", i)))
	}
	return lines
}

// wantVars checks a function with so many variables.
func wantVars(t *testing.T, vars int, d draft) {
	t.Helper()
	if vars > api.MaxVars {
		wantFunc(t, d, api.ErrLimit)
	} else {
		wantFunc(t, d, api.OK)
	}
}

func TestVarsLimit(t *testing.T) {
	for kind, writer := range writers() {
		if kind == "deep" {
			// So many of these are more statements than a program may have.
			continue
		}
		for n := range api.MaxVars + 5 {
			for params := range min(n, api.MaxParams) + 1 {
				head := "f"
				for i := range params {
					head += fmt.Sprint(" p", i)
				}
				wantVars(t, n, function(head, writing(writer, params, n)...))
			}
		}
	}
}

// TestVarsOnce checks that a variable counts once, whoever writes it and however often.
func TestVarsOnce(t *testing.T) {
	for _, n := range []int{api.MaxVars - 1, api.MaxVars, api.MaxVars + 1} {
		lines := writing("set V 1", 0, n)
		for _, writer := range writers() {
			again := slices.Concat(lines, writing(writer, 0, 1), writing(writer, n-1, n), writing(writer, 7, 9))
			wantVars(t, n, function("f", again...))
			wantVars(t, n, function("f v0 v1 v2 v7", again...))
			wantVars(t, n, function("f v9 v8", again...))
			wantVars(t, n+1, function("f other", again...))
			wantVars(t, n+4, function("f p q r s", again...))
		}
	}
}

// TestVarsNested has the last one of the variables in every place.
func TestVarsNested(t *testing.T) {
	for _, place := range nests() {
		// Loops write i and try writes e.
		before := writing("set V 1", 0, api.MaxVars-3)
		for _, writer := range writers() {
			inner := strings.Join(writing(writer, 20, 21), "; ")
			lines := slices.Concat([]string{"set i 1", "set e 1"}, before, []string{with(place, inner)})
			wantVars(t, api.MaxVars, function("f", lines...))
			wantVars(t, api.MaxVars, function("f v0 e i v20", lines...))
			wantVars(t, api.MaxVars+1, function("f p", lines...))
			wantVars(t, api.MaxVars+1, function("f", append(lines, "set last 1")...))
		}
	}
}

// TestVarsOfEachFunction checks that the variables of several functions do not add up.
func TestVarsOfEachFunction(t *testing.T) {
	full := writing("set V 1", 4, api.MaxVars)
	wantText(t, written(function("main", writing("set V 1", 0, 16)...), function("f v0 v1 v2 v3", full...), function("g a b c d", full...)), 0, api.OK)
	wantText(t, written(function("main"), function("f v0 v1 v2 v3", full...), function("g a b c d", append(full, "set e 1")...)), 2, api.ErrLimit)
}

// TestOtherNamesAreNoVars checks that what is called and what is read does not count.
func TestOtherNamesAreNoVars(t *testing.T) {
	lines := writing("set V add v0 v1", 0, api.MaxVars)
	for _, line := range []string{"call v0 none", "call v3 one v2", "call v0 f", "store 1 v0 v1", "emit v9", "if v0; end", "while v9; end"} {
		wantVars(t, api.MaxVars, function("f", append(lines, line)...))
	}
}
