package check_test

import (
	"fmt"
	"slices"
	"strings"
	"testing"

	"speculate/api"
	"speculate/check"
)

// named is a program of functions with nothing but names.
func named(names ...string) api.Program {
	p := api.Program{}
	for _, name := range names {
		p.Funcs = append(p.Funcs, api.Func{Name: name})
	}
	return p
}

func wantIndex(t *testing.T, p api.Program, name string, want int) {
	t.Helper()
	if i := check.Index(p, name); i != want {
		t.Fatalf("Index(%s, %.40q) = %d, want %d", brief(p), name, i, want)
	}
}

// oddNames are some strings that are names, and many that are not.
func oddNames() []string {
	return []string{
		"", " ", "f", "F", "f ", " f", "ff", "fg", "g", "f1", "1", "f\x00", "\x00", "\xff", "\xff\xfe", "é", "end", "nil", "add", "-1", "0", "f\n", "\n",
		"abcdefghijklmnop", "abcdefghijklmnopq", strings.Repeat("long", 1<<16), strings.Repeat("long", 1<<16) + "s",
	}
}

func TestIndexOfNothing(t *testing.T) {
	for _, name := range oddNames() {
		wantIndex(t, api.Program{}, name, -1)
		wantIndex(t, api.Program{Funcs: []api.Func{}}, name, -1)
		wantIndex(t, named("other"), name, -1)
		wantIndex(t, named("other", "others", "another"), name, -1)
	}
}

func TestIndexOfOne(t *testing.T) {
	p := named(oddNames()...)
	for i, name := range oddNames() {
		wantIndex(t, named(name), name, 0)
		wantIndex(t, named("other", name), name, 1)
		wantIndex(t, named(name, "other"), name, 0)
		wantIndex(t, p, name, i)
	}
	wantIndex(t, p, "other", -1)
	wantIndex(t, program(t, "func main; end; func g; end; func h; end"), "h", 2)
}

func TestIndexOfSeveral(t *testing.T) {
	for _, name := range oddNames() {
		wantIndex(t, named(name, name), name, 0)
		wantIndex(t, named("other", name, name), name, 1)
		wantIndex(t, named("other", name, "another", name, "other"), name, 1)
		wantIndex(t, named("other", "another", name, name, name), name, 2)
	}
	p := named(append(oddNames(), oddNames()...)...)
	for i, name := range oddNames() {
		wantIndex(t, p, name, i)
	}
}

// TestIndexOfAll compares all programs of up to four functions with a plain reading of P7.1.
func TestIndexOfAll(t *testing.T) {
	pool := []string{"", "a", "b", "aa"}
	var walk func(names []string)
	walk = func(names []string) {
		for _, name := range append(pool, "c") {
			wantIndex(t, named(names...), name, slices.Index(names, name))
		}
		if len(names) < 4 {
			for _, name := range pool {
				walk(append(slices.Clone(names), name))
			}
		}
	}
	walk(nil)
}

// TestIndexOfOtherParts checks that only the name of a function counts.
func TestIndexOfOtherParts(t *testing.T) {
	p := program(t, "func main; set v 1; call v g v; end; func g q; try w; catch; end; end")
	for _, name := range []string{"v", "q", "w", "h", "Main", "mai", "mainn"} {
		wantIndex(t, p, name, -1)
	}
	wantIndex(t, p, "g", 1)
	// The body of a function may be anything.
	p.Funcs[0] = api.Func{Name: "main", Params: []string{"g"}, Body: []api.Stmt{{Kind: 99, Name: "g", Func: "g"}}}
	wantIndex(t, p, "g", 1)
	wantIndex(t, p, "main", 0)
}

func TestIndexOfMany(t *testing.T) {
	var names []string
	for i := range 100000 {
		names = append(names, fmt.Sprint("f", i/2))
	}
	p := named(names...)
	for _, i := range []int{0, 1, 255, 256, 49999} {
		wantIndex(t, p, fmt.Sprint("f", i), 2*i)
	}
	wantIndex(t, p, "f50000", -1)
	wantIndex(t, p, "f", -1)
}
