package check_test

import (
	"fmt"
	"slices"
	"strings"
	"testing"

	"speculate/api"
	"speculate/check"
	"speculate/parse"
)

// program is the program of a text whose lines are separated by semicolons.
func program(t *testing.T, text string) api.Program {
	t.Helper()
	p, line, e := parse.Parse(strings.ReplaceAll(text, "; ", "\n"))
	if e != api.OK {
		t.Fatalf("the program %q has the error %d in line %d", text, e, line)
	}
	return p
}

// draft is a function that is not written yet.
type draft struct {
	name   string
	params []string
	lines  []string
}

func function(head string, lines ...string) draft {
	l := strings.Fields(head)
	return draft{l[0], l[1:], lines}
}

func (d draft) text() string {
	head := strings.Join(slices.Concat([]string{"func", d.name}, d.params), " ")
	return strings.Join(slices.Concat([]string{head}, d.lines, []string{"end"}), "; ")
}

func written(l ...draft) string {
	var texts []string
	for _, d := range l {
		texts = append(texts, d.text())
	}
	return strings.Join(texts, "; ")
}

func wantCheck(t *testing.T, p api.Program, at int, want api.Errno) {
	t.Helper()
	if i, e := check.Check(p); i != at || e != want {
		s, _ := parse.Format(p)
		t.Fatalf("Check is %d, %d, want %d, %d, for\n%s%s", i, e, at, want, s, brief(p))
	}
}

// wantText takes the program as a text.
func wantText(t *testing.T, text string, at int, want api.Errno) {
	t.Helper()
	wantCheck(t, program(t, text), at, want)
}

// others are right functions, the first of which has no parameters. The functions of a test must have other names.
func others() []draft {
	return []draft{
		function("none", "set n 1"), function("one p", "return p"), function("two p q", "set x p", "return add x q"),
		function("three p q r", "call x three p q r"), function("four p q r s", "while p", "set t s", "end"),
	}
}

// wantFunc checks what Check says of programs that have a function in one place each, where nothing else is wrong. A function with parameters cannot be the first one.
func wantFunc(t *testing.T, d draft, want api.Errno) {
	t.Helper()
	first := 0
	if len(d.params) > 0 {
		first = 1
	}
	for i := first; i <= len(others()); i++ {
		at := i
		if want == api.OK {
			at = 0
		}
		wantText(t, written(slices.Insert(others(), i, d)...), at, want)
	}
}

// wantBody checks a function with these lines.
func wantBody(t *testing.T, want api.Errno, lines ...string) {
	t.Helper()
	wantFunc(t, function("f", lines...), want)
}

// nests are the lines around others that are in the Body or Else of a statement, in place of the line @.
func nests() map[string]string {
	return map[string]string{
		"if": "if 1; @; end", "if with else": "if 1; @; else; emit 1; end", "else": "if 1; emit 1; else; @; end", "else alone": "if 1; else; @; end",
		"for": "for i 1 2; @; end", "while": "while 1; @; end",
		"try": "try e; @; catch; end", "try with catch": "try e; @; catch; emit 1; end", "catch": "try e; emit 1; catch; @; end", "catch alone": "try e; catch; @; end",
	}
}

// places are the ways in which lines may stand in the body of a function.
func places() map[string]string {
	l := map[string]string{"alone": "@", "first": "@; emit 1; emit 2", "last": "emit 1; emit 2; @", "middle": "emit 1; @; emit 2"}
	for name, nest := range nests() {
		l[name] = nest
		l["beside others in "+name] = "emit 1; " + with(nest, "emit 2; @; emit 3") + "; emit 4"
		deepest := nest
		for range api.MaxNest - 2 {
			deepest = with(nest, deepest)
		}
		l["deep in "+name] = deepest
		for outer, around := range nests() {
			l[name+" in "+outer] = with(around, nest)
		}
	}
	return l
}

func with(around, lines string) string { return strings.ReplaceAll(around, "@", lines) }

// wantLine checks a function with a line in one place each. The other lines write i and e only.
func wantLine(t *testing.T, want api.Errno, line string) {
	t.Helper()
	for _, place := range places() {
		wantBody(t, want, with(place, line))
	}
}

// brief shows the beginning of a tree, most of which are too large to be shown whole.
func brief(tree any) string {
	s := fmt.Sprintf("%+v", tree)
	return s[:min(len(s), 300)]
}

// TestPlaces checks that nothing is wrong in a place by itself.
func TestPlaces(t *testing.T) {
	wantBody(t, api.OK)
	for name, place := range places() {
		if !strings.Contains(place, "@") {
			t.Errorf("%s has no place for a line", name)
		}
	}
	wantLine(t, api.OK, "emit 0")
	if len(places()) != 4+3*len(nests())+len(nests())*len(nests()) {
		t.Errorf("%d places", len(places()))
	}
}
