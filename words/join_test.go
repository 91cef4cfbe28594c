package words_test

import (
	"slices"
	"strings"
	"testing"

	"speculate/api"
	"speculate/words"
)

func wantLine(t *testing.T, want string, l ...string) {
	t.Helper()
	if s, e := words.Join(l); e != api.OK || s != want {
		t.Errorf("Join(%.80q) = %.40q, %d; want %.40q", l, s, e, want)
	}
}

func wantNoLine(t *testing.T, l ...string) {
	t.Helper()
	if s, e := words.Join(l); e != api.ErrLimit || s != "" {
		t.Errorf("Join(%.80q) = %.40q, %d; want error %d", l, s, e, api.ErrLimit)
	}
}

func TestJoinOrdinary(t *testing.T) {
	wantLine(t, "")
	wantLine(t, "set", "set")
	wantLine(t, "set a add 1 2", "set", "a", "add", "1", "2")
	wantLine(t, `set "a b" 3 -`, "set", "a b", "3", "-")
	wantLine(t, `""`, "")
	wantLine(t, `a ""`, "a", "")
	wantLine(t, `"" ""`, "", "")
	wantLine(t, `"\"" "\\" "\n" "\r"`, `"`, `\`, "\n", "\r")
	wantLine(t, `"a\\nb" "\"a b\""`, `a\nb`, `"a b"`)
	wantLine(t, "\"\x00\t\x7f\xff\"", "\x00\t\x7f\xff")
	wantLine(t, `"ä"`, "ä")
}

func TestJoinNil(t *testing.T) {
	if s, e := words.Join(nil); e != api.OK || s != "" {
		t.Errorf("Join(nil) = %q, %d", s, e)
	}
}

func TestJoinEveryByte(t *testing.T) {
	pairs := map[byte]string{'"': `\"`, '\\': `\\`, 10: `\n`, 13: `\r`}
	for i := range 256 {
		c := byte(i)
		s := string([]byte{c})
		if p, ok := pairs[c]; ok {
			wantLine(t, `"`+p+`"`, s)
			wantLine(t, `"a`+p+`b"`, "a"+s+"b")
		} else if c > 32 && c < 127 {
			wantLine(t, s, s)
			wantLine(t, "a"+s+"b", "a"+s+"b")
		} else {
			wantLine(t, `"`+s+`"`, s)
			wantLine(t, `"a`+s+`b"`, "a"+s+"b")
		}
	}
}

func TestJoinLimits(t *testing.T) {
	most := slices.Repeat([]string{"a"}, api.MaxWords)
	wantLine(t, strings.Join(most, " "), most...)
	wantNoLine(t, append(most, "a")...)
	wantNoLine(t, append(most, "")...)
	wantNoLine(t, make([]string, api.MaxWords+1)...)

	long := strings.Repeat("a", api.MaxLine)
	wantLine(t, long, long)
	wantNoLine(t, long+"a")
	wantNoLine(t, long, "")
	wantNoLine(t, long, "a")
	wantNoLine(t, "", long)
	wantNoLine(t, strings.Repeat(long, 8))

	// The space between two words counts, and so do quotes and backslashes.
	wantLine(t, long[2:]+" a", long[2:], "a")
	wantNoLine(t, long[1:], "a")
	wantLine(t, `"`+long[3:]+` "`, long[3:]+" ")
	wantNoLine(t, long[2:]+" ")
	feeds := strings.Repeat("\n", api.MaxLine/2-1)
	wantLine(t, `"`+strings.Repeat(`\n`, api.MaxLine/2-1)+`"`, feeds)
	wantNoLine(t, feeds+"\n")
	wantNoLine(t, feeds+"a")

	// 256 words of 15 bytes and 255 spaces are a line of 4095 bytes.
	full := slices.Repeat([]string{long[:15]}, api.MaxWords)
	wantLine(t, strings.Join(full, " "), full...)
	full[7] += "a"
	wantLine(t, strings.Join(full, " "), full...)
	full[200] += "a"
	wantNoLine(t, full...)
}

func TestJoinKeepsItsArgument(t *testing.T) {
	all := []string{"a b", "\n", "behind"}
	if s, e := words.Join(all[:2]); e != api.OK || s != `"a b" "\n"` {
		t.Error(s, e)
	}
	if !slices.Equal(all, []string{"a b", "\n", "behind"}) {
		t.Errorf("the argument became %q", all)
	}
}

func TestSplitOfJoin(t *testing.T) {
	var some []string
	everyString("an \"\\\r\x00\xc3", 3, func(s string) { some = append(some, s) })
	for i, w := range some {
		for _, l := range [][]string{{w}, {w, ""}, {"a", w}, {w, some[len(some)-1-i], w}} {
			s, e := words.Join(l)
			if e != api.OK {
				t.Fatalf("Join(%q): error %d", l, e)
			}
			wantWords(t, s, l...)
		}
	}
	wantWords(t, "")
}
