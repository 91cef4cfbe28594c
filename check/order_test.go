package check_test

import (
	"strings"
	"testing"

	"speculate/api"
)

// fault is something that makes a function wrong. Of two faults in one function the one with the lesser step comes first: 0 for ErrExists, 1 for ErrArity, 2 for ErrLimit, 3 for what is wrong with a statement.
type fault struct {
	name        string
	code        api.Errno
	step        int
	first, rest bool // whether the first function can have it, and the others
	put         func(d *draft)
}

func faults() []fault {
	l := []fault{
		{"name", api.ErrExists, 0, false, true, func(d *draft) { d.name = "main" }},
		{"parameter", api.ErrExists, 0, true, true, func(d *draft) { d.params = append(d.params, "p", "p") }},
		{"first", api.ErrArity, 1, true, false, func(d *draft) { d.params = append(d.params, "s") }},
		{"variables", api.ErrLimit, 2, true, true, func(d *draft) { d.lines = append(d.lines, writing("set V 1", 0, 17)...) }},
	}
	for _, s := range stmtFaults() {
		l = append(l, s.fault(s.line), s.fault("if 1; emit 1; else; while 1; "+s.line+"; end; end"))
	}
	return l
}

// stmtFault is a line that makes a function wrong.
type stmtFault struct {
	line string
	code api.Errno
}

func stmtFaults() []stmtFault {
	return []stmtFault{
		{"emit unknown", api.ErrUndefined}, {"set r less 1 field 2 unknown", api.ErrUndefined}, {"call r nowhere", api.ErrUndefined},
		{"call r one", api.ErrArity}, {"call r one 1 2", api.ErrArity}, {"reduce r sub 1", api.ErrMismatch},
	}
}

func (s stmtFault) fault(lines string) fault {
	return fault{lines, s.code, 3, true, true, func(d *draft) { d.lines = append(d.lines, lines) }}
}

// sound are the functions that faults are put into, the first four ones, and one to be called.
func sound() []draft {
	return []draft{function("main", "emit 1"), function("f", "emit 2"), function("g", "emit 3"), function("h"), function("one p", "return p")}
}

func (f fault) fits(at int) bool { return at == 0 && f.first || at > 0 && f.rest }

// faulty returns functions one of which has a fault, and whether it can.
func faulty(f fault, at int) ([]draft, bool) {
	l := sound()
	f.put(&l[at])
	return l, f.fits(at)
}

func TestFaults(t *testing.T) {
	wantText(t, written(sound()...), 0, api.OK)
	for _, f := range faults() {
		for at := range 4 {
			if l, ok := faulty(f, at); ok {
				wantText(t, written(l...), at, f.code)
			}
		}
	}
}

func TestTwoInOneFunction(t *testing.T) {
	for _, a := range faults() {
		for _, b := range faults() {
			for at := range 4 {
				if !a.fits(at) || !b.fits(at) || a.name == b.name {
					continue
				}
				l := sound()
				a.put(&l[at])
				b.put(&l[at])
				want := a.code
				if b.step < a.step {
					want = b.code
				}
				wantText(t, written(l...), at, want)
			}
		}
	}
}

func TestTwoInTwoFunctions(t *testing.T) {
	for _, a := range faults() {
		for _, b := range faults() {
			for i := range 4 {
				for j := i + 1; j < 4; j++ {
					if !a.fits(i) || !b.fits(j) {
						continue
					}
					l := sound()
					a.put(&l[i])
					b.put(&l[j])
					wantText(t, written(l...), i, a.code)
				}
			}
		}
	}
}

// TestTwoBehindAnother has a fault in each one of up to three functions, the first of which counts.
func TestTwoBehindAnother(t *testing.T) {
	for _, a := range faults() {
		for from := range 4 {
			for _, b := range faults() {
				if !a.fits(from) || !b.rest {
					continue
				}
				l := sound()
				a.put(&l[from])
				for at := from + 1; at < min(from+3, 4); at++ {
					b.put(&l[at])
				}
				wantText(t, written(l...), from, a.code)
			}
		}
	}
}

// inOrder are lines with a place @ before a place #.
func inOrder() []string {
	l := []string{
		"@; #", "@; emit 1; #", "emit 1; @; #; emit 2", "@; return 1; #", "return 1; @; throw 2; #",
		"if 1; @; else; #; end", "try e; @; catch; #; end",
		"if 1; emit 1; @; else; #; emit 2; end", "try e; emit 1; @; catch; #; emit 2; end",
		"if 1; while 1; while 1; @; end; end; else; #; end", "try e; while 1; while 1; @; end; end; catch; #; end",
		"if 1; while 1; if 1; emit 1; else; @; end; end; else; #; end", "try e; if 1; emit 1; else; while 1; @; end; end; catch; #; end",
		"if 1; @; else; while 1; for i 1 2; #; end; end; end", "try e; @; catch; try e; while 1; #; end; catch; end; end",
		"while 1; if 1; @; else; #; end; end", "for i 1 2; try e; @; catch; #; end; end",
		"while 1; while 1; while 1; while 1; @; end; end; end; end; while 1; #; end",
	}
	for _, nest := range nests() {
		l = append(l, with(nest, "@; #"), with(nest, "@")+"; #", "@; "+with(nest, "#"), with(nest, "@")+"; "+with(nest, "#"))
		for _, other := range nests() {
			l = append(l, with(other, with(nest, "@")+"; #"), with(other, "@; "+with(nest, "#")), with(other, with(nest, "@"))+"; #", with(other, "@")+"; "+with(nest, "#"))
		}
	}
	return l
}

func TestTwoStatements(t *testing.T) {
	for _, lines := range inOrder() {
		for _, a := range stmtFaults() {
			for _, b := range stmtFaults() {
				if a.code == b.code {
					continue
				}
				both := strings.ReplaceAll(with(lines, a.line), "#", b.line)
				l := sound()
				l[2].lines = []string{both}
				wantText(t, written(l...), 2, a.code)
			}
		}
	}
}

// TestThreeStatements has the three errors of statements in all orders.
func TestThreeStatements(t *testing.T) {
	for _, place := range []string{"@; #; !", "if 1; @; else; #; end; !", "@; if 1; #; else; !; end", "try e; @; while 1; #; end; catch; !; end", "while 1; if 1; else; @; end; #; end; !"} {
		for _, a := range stmtFaults() {
			for _, b := range stmtFaults() {
				for _, c := range stmtFaults() {
					lines := strings.NewReplacer("@", a.line, "#", b.line, "!", c.line).Replace(place)
					l := sound()
					l[1].lines = []string{lines}
					wantText(t, written(l...), 1, a.code)
				}
			}
		}
	}
}

// TestStatementBeforeItsBody has something wrong in what a statement reads, and in what is within it or behind it.
func TestStatementBeforeItsBody(t *testing.T) {
	for _, lines := range []string{
		"if E; @; end", "if E; else; @; end", "if E; emit 1; else; @; end", "if E; while 1; @; end; end", "if E; end; @",
		"for a E 1; @; end", "for a 1 E; @; end", "for a E 1; emit 1; while 1; @; end; end", "for a 1 E; end; @",
		"while E; @; end", "while E; emit 1; if 1; else; @; end; end", "while E; end; @",
	} {
		for _, s := range stmtFaults() {
			for _, expression := range expressions() {
				wantBody(t, api.ErrUndefined, reading(with(lines, s.line), expression, "unknown"))
				wantBody(t, s.code, "set a 1", reading(with(lines, s.line), expression, "a"))
			}
		}
	}
}

// TestWithinOneStatement has two things wrong in one statement.
func TestWithinOneStatement(t *testing.T) {
	for _, expression := range expressions() {
		for n := 1; n <= api.MaxParams; n++ {
			for i := range n {
				l := many(n, "1")
				l[i] = reading("E", expression, "unknown")
				arguments := strings.Join(l, " ")
				for _, name := range strings.Fields("none one two three four f nowhere") {
					wantBody(t, api.ErrUndefined, "call r "+name+" "+arguments)
				}
			}
		}
		for _, op := range operators() {
			wantBody(t, api.ErrUndefined, reading("reduce r "+op+" E", expression, "unknown"))
		}
	}
}
