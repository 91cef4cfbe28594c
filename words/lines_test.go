package words_test

import (
	"slices"
	"strings"
	"testing"

	"speculate/api"
	"speculate/words"
)

func wantLines(t *testing.T, s string, want ...string) {
	t.Helper()
	if l := words.Lines(s); !slices.Equal(l, want) {
		t.Errorf("Lines(%.40q) = %.80q, want %.80q", s, l, want)
	}
}

func TestLinesOrdinary(t *testing.T) {
	wantLines(t, "")
	wantLines(t, "a", "a")
	wantLines(t, "a\n", "a")
	wantLines(t, "a\nb", "a", "b")
	wantLines(t, "a\nb\n", "a", "b")
	wantLines(t, "\n", "")
	wantLines(t, "\n\n", "", "")
	wantLines(t, "\na", "", "a")
	wantLines(t, "a\n\n", "a", "")
	wantLines(t, "a\n\nb", "a", "", "b")
	wantLines(t, "a\n ", "a", " ")
}

func TestLinesAnyBytes(t *testing.T) {
	wantLines(t, "a\r\nb\r", "a\r", "b\r")
	wantLines(t, "\r", "\r")
	wantLines(t, "\x00\xff\n\x0b\x0c\n\u2028\u0085", "\x00\xff", "\x0b\x0c", "\u2028\u0085")
	wantLines(t, "\"a\n\\n", "\"a", "\\n")
}

// TestLinesHaveNoLimit checks that the limits of a line are left to Split.
func TestLinesHaveNoLimit(t *testing.T) {
	long := strings.Repeat("a", api.MaxText+1)
	wantLines(t, long+"\n"+long, long, long)
	wantLines(t, strings.Repeat("\n", api.MaxText+1), make([]string, api.MaxText+1)...)
}

func TestLinesOfAllShortTexts(t *testing.T) {
	everyString("ab\n", 7, func(s string) {
		want := strings.Split(s, "\n")
		if last := len(want) - 1; want[last] == "" {
			want = want[:last]
		}
		wantLines(t, s, want...)
	})
}

func TestLinesApart(t *testing.T) {
	const s = "a\nb\n"
	clear(words.Lines(s))
	wantLines(t, s, "a", "b")
}
