package parse_test

import (
	"fmt"
	"math/rand"
	"reflect"
	"slices"
	"strings"
	"testing"

	"speculate/api"
	"speculate/parse"
	"speculate/source"
	"speculate/words"
)

func TestParseOfFormat(t *testing.T) {
	somePrograms(func(p api.Program) {
		s, e := parse.Format(p)
		if e != api.OK || !strings.HasSuffix(s, "end\n") {
			t.Fatalf("Format(%s) = %q, %d", brief(p), brief(s), e)
		}
		wantProgram(t, s, p)
	})
}

// TestParseOfFormatExactly checks all fields of what is read, also those that source.Same might pass over.
func TestParseOfFormatExactly(t *testing.T) {
	somePrograms(func(p api.Program) {
		s, _ := parse.Format(p)
		q, _, _ := parse.Parse(s)
		if !reflect.DeepEqual(mended(p), mended(q)) {
			t.Fatalf("%s is read as %s", brief(p), brief(q))
		}
	})
}

// TestFormatOfParse checks that a text that is read is written with the same words, without its empty lines.
func TestFormatOfParse(t *testing.T) {
	somePrograms(func(p api.Program) {
		s, _ := parse.Format(p)
		q, _, e := parse.Parse("\n" + strings.ReplaceAll(s, "\n", "\n\n"))
		if e != api.OK {
			t.Fatalf("error %d", e)
		}
		wantText(t, q, s)
		for _, line := range words.Lines(s) {
			if l, e := words.Split(line); e != api.OK || len(l) == 0 || strings.Join(l, " ") != line {
				t.Fatalf("the line %q", line)
			}
		}
	})
}

// TestQuotedWords checks that words count as what they stand for, however they are written.
func TestQuotedWords(t *testing.T) {
	p := fullProgram(t)
	quoted := ""
	for _, line := range words.Lines(fullText) {
		quoted += `"` + strings.ReplaceAll(line, " ", `" "`) + "\"\n"
	}
	wantProgram(t, quoted, p)
	wantText(t, p, fullText)
}

// TestAcceptedIsShaped changes the texts of programs, so that about as many are read as not.
func TestAcceptedIsShaped(t *testing.T) {
	found := map[api.Errno]int{}
	r := rand.New(rand.NewSource(6))
	somePrograms(func(p api.Program) {
		s, _ := parse.Format(p)
		for range 6 {
			changed := changedText(r, s)
			p, _, e := parse.Parse(changed)
			found[e]++
			if e == api.OK && source.Shaped(p) != api.OK {
				t.Fatalf("%q is read as %s, which is not shaped", brief(changed), brief(p))
			}
			wantPlain(t, changed)
		}
	})
	if found[api.OK] < 1000 || found[api.ErrSyntax] < 3000 || found[api.ErrLimit] < 30 {
		t.Errorf("errors %v", found)
	}
}

// changedText changes a text once: a line or a word is taken away, doubled, moved or replaced.
func changedText(r *rand.Rand, s string) string {
	lines := strings.SplitAfter(s, "\n")
	i, j := r.Intn(len(lines)), r.Intn(len(lines))
	l := strings.Fields(lines[i])
	switch r.Intn(8) {
	case 0:
		lines = slices.Delete(lines, i, i+1)
	case 1:
		lines = slices.Insert(lines, j, lines[i])
	case 2:
		lines[i], lines[j] = lines[j], lines[i]
	case 3:
		lines = slices.Insert(lines, i, "set a 1\n")
	default:
		if len(l) == 0 {
			return s
		}
		k := r.Intn(len(l))
		word := candidates()[r.Intn(len(candidates()))]
		switch r.Intn(4) {
		case 0:
			l = slices.Delete(l, k, k+1)
		case 1:
			l = slices.Insert(l, k, word)
		case 2:
			l = slices.Insert(l, k, l[k])
		case 3:
			l[k] = word
		}
		lines[i] = strings.Join(l, " ") + "\n"
	}
	return strings.Join(lines, "")
}

// TestSameCallsSameResults checks that results depend on nothing but the arguments.
func TestSameCallsSameResults(t *testing.T) {
	for _, s := range []string{fullText, "", "func f\nhello", "func f a b c d e\nend", "func f\nif 1\nelse\nend"} {
		want := fmt.Sprint(parse.Parse(s))
		for range 3 {
			if again := fmt.Sprint(parse.Parse(s)); again != want {
				t.Errorf("%q is read as %s and as %s", s, want, again)
			}
		}
	}
}

func FuzzParse(f *testing.F) {
	f.Add(fullText)
	f.Add("func f\nend\n")
	f.Add("func f a\nset a add 1 -2\nend\n\nfunc \"g\"\nend")
	f.Fuzz(func(t *testing.T, s string) {
		p, line, e := parse.Parse(s)
		if e != api.OK {
			if len(p.Funcs) > 0 || line < 0 || line > len(words.Lines(s)) {
				t.Fatalf("Parse = %s, %d, %d", brief(p), line, e)
			}
			wantPlain(t, s)
			return
		}
		written, e := parse.Format(p)
		if e != api.OK || line != 0 {
			t.Fatalf("the program of line %d is not shaped: %d", line, e)
		}
		wantProgram(t, written, p)
		wantPlain(t, s)
	})
}
