package source_test

import (
	"regexp"
	"slices"
	"strings"
	"testing"

	"speculate/api"
	"speculate/source"
	"speculate/value"
)

const alphabet = "abcdefghijklmnopqrstuvwxyz"

var reserved = strings.Fields("nil field new func set store call if else for while return throw try catch emit ask reduce end")

var operators = strings.Fields("add sub mul div min max and or xor less equal")

var nameForm = regexp.MustCompile(`\A[a-z][a-z0-9]{0,15}\z`)

// plainName reads the definition of a name.
func plainName(s string) bool {
	return nameForm.MatchString(s) && !slices.Contains(reserved, s) && !slices.Contains(operators, s)
}

func wantName(t *testing.T, s string, want bool) {
	t.Helper()
	if ok := source.Name(s); ok != want {
		t.Fatalf("Name(%.40q) = %v, want %v", s, ok, want)
	}
}

func TestNameOneByte(t *testing.T) {
	for i := range 256 {
		wantName(t, string([]byte{byte(i)}), i >= 'a' && i <= 'z')
	}
}

func TestNameEveryByteLater(t *testing.T) {
	for i := range 256 {
		c := string([]byte{byte(i)})
		ok := i >= 'a' && i <= 'z' || i >= '0' && i <= '9'
		wantName(t, "q"+c, ok)
		wantName(t, "q"+c+"q", ok)
		wantName(t, "qqqqqqqqqqqqqqq"+c, ok)
		wantName(t, c+"q", ok && i >= 'a')
	}
}

func TestNameLength(t *testing.T) {
	wantName(t, "", false)
	for n := 1; n < 40; n++ {
		wantName(t, strings.Repeat("a", n), n <= api.MaxName)
		wantName(t, "z"+strings.Repeat("9", n-1), n <= api.MaxName)
	}
	wantName(t, alphabet[:16], true)
	wantName(t, alphabet[:17], false)
	wantName(t, strings.Repeat("a", api.MaxText), false)
}

func TestNameDigits(t *testing.T) {
	for _, s := range []string{"0", "9", "0a", "9a", "12", "-1", "0000000000000000"} {
		wantName(t, s, false)
	}
	for _, s := range []string{"a0", "a9", "z09z", "a1b2", "nil0", "a00000000000000"} {
		wantName(t, s, true)
	}
}

func TestNameOtherBytes(t *testing.T) {
	for _, s := range []string{
		"A", "Z", "aB", "Ab", "NIL", "Add", "a_b", "_a", "a-b", "a.b", "a b", " a", "a ", "a\n", "\na", "a\x00", "\x00", "\xff", "a\xff",
		"ä", "aä", "é", "λ", "a\u0301", "\uff41", "a\u0660", "`", "{", "a`", "a{", "a/", "a:", "@", "[", "\"a\"",
	} {
		wantName(t, s, false)
	}
}

func TestNameReserved(t *testing.T) {
	if len(reserved) != 19 || len(operators) != 11 {
		t.Fatal("the lists of words are not complete")
	}
	for _, s := range append(slices.Clone(reserved), operators...) {
		wantName(t, s, false)
		for _, longer := range []string{s + "s", s + "0", "a" + s, s + s, s + "e"} {
			wantName(t, longer, plainName(longer))
		}
		wantName(t, s+"q", true)
		wantName(t, "q"+s, true)
		wantName(t, s+"7", true)
		if len(s) > 2 {
			wantName(t, s[:len(s)-1], true)
		}
		wantName(t, s[:1], true)
		wantName(t, strings.ToUpper(s), false)
		wantName(t, s+" ", false)
	}
}

// TestNameIsNoOperator takes the names of the operators from the layer that has them.
func TestNameIsNoOperator(t *testing.T) {
	for op := -20; op < 40; op++ {
		if s, ok := value.Name(op); ok {
			wantName(t, s, false)
		}
	}
}

// TestNameOfOtherLanguages checks that no further word is reserved.
func TestNameOfOtherLanguages(t *testing.T) {
	for _, s := range strings.Fields("main let var def do then elif break continue goto mod not greater true false null nul go int mark result num bin un object") {
		wantName(t, s, true)
	}
}

// TestNameOfShortStrings goes through all strings of up to four bytes of those that the shortest reserved words have, and some others.
func TestNameOfShortStrings(t *testing.T) {
	var walk func(s string)
	walk = func(s string) {
		wantName(t, s, plainName(s))
		if len(s) < 4 {
			for _, c := range []byte("addeflionrstwxz09A_ ") {
				walk(s + string(rune(c)))
			}
		}
	}
	walk("")
}
