package check_test

import (
	"fmt"
	"strings"
	"testing"

	"speculate/api"
)

// readers are lines in which an expression stands in the place E, one for each expression of each kind of statement.
func readers() map[string]string {
	return map[string]string{
		"assign": "set a E", "store to": "store 3 E 1", "store what": "store 3 1 E", "if": "if E; end",
		"for from": "for a E 2; end", "for to": "for a 1 E; end", "while": "while E; end", "return": "return E", "throw": "throw E", "emit": "emit E", "ask": "ask a E", "reduce": "reduce a add E",
		"call one": "call a one E", "call two first": "call a two E 1", "call two second": "call a two 1 E", "call four second": "call a four 1 E 3 4", "call four third": "call a four 1 2 E 4", "call four last": "call a four 1 2 3 E",
	}
}

// expressions are ways to read the variable V, and no other one.
func expressions() map[string]string {
	l := map[string]string{
		"top": "V", "field": "field 2 V", "left": "add V 1", "right": "add 1 V", "both": "less V V", "deep": "field 1 add 1 min new 2 field 15 mul V nil",
		"deepest": strings.Repeat("field 0 ", api.MaxNodes-1) + "V", "last of all": "add add add 1 2 add 3 4 add add 5 6 add 7 V", "first of all": "add add add add add add add V 1 2 3 4 5 6 7",
	}
	for _, op := range operators() {
		l[op] = op + " 1 " + op + " V 2"
	}
	return l
}

func operators() []string {
	return strings.Fields("add sub mul div min max and or xor less equal")
}

// reading is a line that reads a name.
func reading(reader, expression, name string) string {
	return strings.ReplaceAll(strings.ReplaceAll(reader, "E", expression), "V", name)
}

// TestUndefinedVariables reads a variable that nobody writes in every expression of every statement in every place.
func TestUndefinedVariables(t *testing.T) {
	for _, reader := range readers() {
		for _, expression := range expressions() {
			wantBody(t, api.ErrUndefined, reading(reader, expression, "unknown"))
			wantBody(t, api.OK, "set a 1", reading(reader, expression, "a"))
			wantFunc(t, function("f known", reading(reader, expression, "known")), api.OK)
			wantFunc(t, function("f known", reading(reader, expression, "unknown")), api.ErrUndefined)
		}
		wantLine(t, api.ErrUndefined, reading(reader, "V", "unknown"))
		wantLine(t, api.ErrUndefined, reading(reader, "sub 1 field 1 V", "unknown"))
		wantLine(t, api.OK, "set known 1; "+reading(reader, "V", "known"))
	}
}

// TestUndefinedBesideOthers reads one unknown variable among several known ones.
func TestUndefinedBesideOthers(t *testing.T) {
	const known = "set a 1; set b a; set c b; set d c"
	wantBody(t, api.OK, known, "call a four a b c d", "set a add add add a b c d")
	wantFunc(t, function("f a b c d", "call a four d c b a"), api.OK)
	for i := range 4 {
		names := strings.Fields("a b c d")
		names[i] = "unknown"
		one := strings.Join(names, " ")
		wantBody(t, api.ErrUndefined, known, "call a four "+one)
		wantFunc(t, function("f a b c d", "call a four "+one), api.ErrUndefined)
		wantBody(t, api.ErrUndefined, known, "set a add add add "+one)
		wantBody(t, api.ErrUndefined, known, "set a add "+names[0]+" add "+names[1]+" add "+names[2]+" "+names[3])
		wantBody(t, api.ErrUndefined, known, "emit "+strings.Join(names, "; emit "))
	}
}

// TestWriters checks that each kind of statement that writes a variable makes it one, wherever it stands: behind what reads it, too, and in what is never carried out.
func TestWriters(t *testing.T) {
	for _, writer := range writers() {
		line := strings.ReplaceAll(writer, "V", "known")
		for _, reader := range readers() {
			wantBody(t, api.OK, line, reading(reader, "V", "known"))
			wantBody(t, api.OK, reading(reader, "V", "known"), line)
			wantBody(t, api.ErrUndefined, line, reading(reader, "V", "knowns"))
		}
		for _, nest := range nests() {
			wantBody(t, api.OK, with(nest, "emit known"), line)
			wantBody(t, api.OK, line, with(nest, "emit known"))
			wantBody(t, api.OK, "return known", line)
			wantBody(t, api.OK, "throw 1", with(nest, "return 2; set known 3"), "emit known")
		}
	}
}

// TestReadsItself has statements that read the variable that they write.
func TestReadsItself(t *testing.T) {
	for _, line := range []string{"set a a", "call a one a", "for a a a; end", "ask a a", "reduce a add a", "reduce a add 1"} {
		wantLine(t, api.OK, line)
	}
	for _, lines := range []string{"for a 1 2; emit a; end", "try a; emit a; catch; end", "try a; catch; emit a; end"} {
		wantBody(t, api.OK, lines)
		for _, nest := range nests() {
			wantBody(t, api.OK, with(nest, lines))
		}
	}
}

// TestNamesThatAreNoVariables reads names that stand in a program without being variables of the function.
func TestNamesThatAreNoVariables(t *testing.T) {
	wantBody(t, api.ErrUndefined, "emit f")
	wantBody(t, api.ErrUndefined, "emit none")
	wantBody(t, api.ErrUndefined, "call r one 1", "emit one")
	// of other functions
	for _, name := range strings.Fields("n p q x t") {
		wantBody(t, api.ErrUndefined, "emit "+name)
		wantFunc(t, function("f a", "call a one a", "emit "+name), api.ErrUndefined)
	}
	wantText(t, "func main; set a 1; end; func g; emit a; end", 1, api.ErrUndefined)
	wantText(t, "func main; emit a; end; func g; set a 1; end", 0, api.ErrUndefined)
	wantText(t, "func main; emit a; end; func g a; end", 0, api.ErrUndefined)
	wantText(t, "func main; end; func g a; end; func h b; emit a; end", 2, api.ErrUndefined)
	// that are alike
	for _, name := range strings.Fields("k know knownn unknown known1 nknow") {
		wantBody(t, api.ErrUndefined, "set known 1", "emit "+name)
	}
}

// TestUnknownFunctions calls functions that are not there, with any number of expressions.
func TestUnknownFunctions(t *testing.T) {
	for n := range api.MaxParams + 1 {
		arguments := strings.Repeat(" 1", n)
		for _, name := range strings.Fields("nowhere r ff non nonee fours main p q n x") {
			wantLine(t, api.ErrUndefined, "call r "+name+arguments)
		}
		wantBody(t, api.ErrUndefined, "set known 1", "call r known"+arguments)
		wantFunc(t, function("f known", "call r known"+arguments), api.ErrUndefined)
	}
}

// TestKnownFunctions calls earlier and later functions, the first one, the last one and the own one.
func TestKnownFunctions(t *testing.T) {
	for _, line := range []string{"call r none", "call r one 1", "call r two 1 2", "call r three 1 2 3", "call r four 1 2 3 4", "call r f"} {
		wantLine(t, api.OK, line)
	}
	wantFunc(t, function("f a", "call f f a"), api.OK)
	wantFunc(t, function("f a b c d", "call a f d c b a"), api.OK)
}

func TestNumbersOfArguments(t *testing.T) {
	for params, name := range strings.Fields("none one two three four") {
		for n := range api.MaxParams + 1 {
			want := api.ErrArity
			if n == params {
				want = api.OK
			}
			line := "call r " + name + strings.Repeat(" 1", n)
			wantLine(t, want, line)
			wantFunc(t, function("f a b c", line), want)
			// The own function has as many parameters as it has, wherever it stands.
			if params > 0 {
				head := "f " + strings.Join(strings.Fields("a b c d")[:params], " ")
				wantFunc(t, function(head, "call r f"+strings.Repeat(" a", n)), want)
			}
		}
	}
	wantText(t, "func main; call r main 1; end", 0, api.ErrArity)
	wantText(t, "func main; end; func g a; call a main a; end", 1, api.ErrArity)
}

// TestLargeArguments checks that expressions are counted, not their nodes or variables.
func TestLargeArguments(t *testing.T) {
	wantBody(t, api.OK, "set a 1", "call r one add add a a add a a")
	wantBody(t, api.ErrArity, "set a 1", "call r two add a a")
	wantBody(t, api.OK, "set a 1", "call r two nil nil")
	wantBody(t, api.ErrArity, "set a 1", "call r one a a")
}

// TestFirstOfTheName checks that of two functions of one name the first one is called.
func TestFirstOfTheName(t *testing.T) {
	wantText(t, "func main; call r g 1; end; func g a; end; func g; end", 2, api.ErrExists)
	wantText(t, "func main; call r g; end; func g a; end; func g; end", 0, api.ErrArity)
	wantText(t, "func main; call r g 1; end; func g; end; func g a; end", 0, api.ErrArity)
	wantText(t, "func main; call r g; end; func g; end; func g a; end", 2, api.ErrExists)
	wantText(t, "func main; call r main; end; func main a; end", 1, api.ErrExists)
	wantText(t, "func main; call r main 1; end; func main a; end", 0, api.ErrArity)
	wantText(t, "func main; end; func g a; call r g 1; end; func g; end", 2, api.ErrExists)
}

func TestReductions(t *testing.T) {
	associative := map[string]bool{"add": true, "mul": true, "min": true, "max": true, "and": true, "or": true, "xor": true}
	for _, op := range operators() {
		want := api.ErrMismatch
		if associative[op] {
			want = api.OK
		}
		wantLine(t, want, "reduce a "+op+" 1")
		wantBody(t, want, "set a 1", "set b a", "reduce a "+op+" add a b")
		wantFunc(t, function("f a b", "reduce a "+op+" b"), want)
		// In an expression every operator may stand.
		wantBody(t, api.OK, "reduce a add "+op+" 1 2")
		wantBody(t, api.OK, "set a "+op+" 1 2")
	}
}

// TestIndexOfTheError has each error in each one of sixteen functions.
func TestIndexOfTheError(t *testing.T) {
	for at := range api.MaxFuncs {
		for line, want := range map[string]api.Errno{"emit b": api.ErrUndefined, "call r nowhere": api.ErrUndefined, "call r f0 1": api.ErrArity, "reduce r div 1": api.ErrMismatch, "emit 1": api.OK} {
			var l []draft
			for i := range api.MaxFuncs {
				d := function(fmt.Sprint("f", i), "emit 0", "set a 1")
				if i > 0 && i != at {
					d.params = []string{"b"}
				}
				l = append(l, d)
			}
			l[at].lines = append(l[at].lines, line)
			if want == api.OK {
				wantText(t, written(l...), 0, want)
			} else {
				wantText(t, written(l...), at, want)
			}
		}
	}
}
