package words_test

import (
	"math"
	"math/big"
	"regexp"
	"strings"
	"testing"

	"speculate/api"
	"speculate/words"
)

func wantNumber(t *testing.T, s string, want int64) {
	t.Helper()
	if n, e := words.Number(s); e != api.OK || n != want {
		t.Errorf("Number(%q) = %d, %d; want %d", s, n, e, want)
	}
}

func wantNoNumber(t *testing.T, s string, want api.Errno) {
	t.Helper()
	if n, e := words.Number(s); e != want || n != 0 {
		t.Errorf("Number(%.40q) = %d, %d; want error %d", s, n, e, want)
	}
}

func TestNumberOrdinary(t *testing.T) {
	wantNumber(t, "0", 0)
	wantNumber(t, "7", 7)
	wantNumber(t, "-7", -7)
	wantNumber(t, "10", 10)
	wantNumber(t, "-100", -100)
	wantNumber(t, "1234567890", 1234567890)
	wantNumber(t, "9223372036854775807", math.MaxInt64)
	wantNumber(t, "-9223372036854775808", math.MinInt64)
}

func TestNumberSyntax(t *testing.T) {
	for _, s := range []string{
		"", "-", "--1", "-0", "00", "01", "-01", "-00", "+", "+0", "+1", "1-", "1-1", "- 1", " 1", "1 ", "1\n", "1\x00",
		"a", "1a", "a1", "0x1", "0b1", "1_0", "1.0", "1e3", "1,0", "\xb1", "١", "1/", "1:", "/", ":",
	} {
		wantNoNumber(t, s, api.ErrSyntax)
	}
}

func TestNumberRange(t *testing.T) {
	for _, s := range []string{
		"9223372036854775808", "-9223372036854775809", "18446744073709551615", "18446744073709551616", "-18446744073709551616",
		"10000000000000000000", "99999999999999999999", strings.Repeat("9", 5000), "-" + strings.Repeat("1", 5000), "36893488147419103232",
	} {
		wantNoNumber(t, s, api.ErrRange)
	}
}

func TestNumberFirstError(t *testing.T) {
	for _, s := range []string{
		"9223372036854775808x", "09223372036854775808", "+9223372036854775808", "-09223372036854775809", " 9223372036854775808",
		strings.Repeat("9", 40) + "x", strings.Repeat("0", 40), strings.Repeat("9", 40) + "-",
	} {
		wantNoNumber(t, s, api.ErrSyntax)
	}
}

// TestNumberGrammar compares Number with the form of the chapter.
func TestNumberGrammar(t *testing.T) {
	form := regexp.MustCompile(`\A(?:0|-?[1-9][0-9]*)\z`)
	everyString("-+0159 ", 5, func(s string) {
		if !form.MatchString(s) {
			wantNoNumber(t, s, api.ErrSyntax)
			return
		}
		n, _ := new(big.Int).SetString(s, 10)
		wantNumber(t, s, n.Int64())
	})
}

func TestFormat(t *testing.T) {
	for n, want := range map[int64]string{
		0: "0", 1: "1", -1: "-1", 9: "9", 10: "10", -10: "-10", 1000000: "1000000",
		math.MaxInt64: "9223372036854775807", math.MinInt64: "-9223372036854775808",
	} {
		if s := words.Format(n); s != want {
			t.Errorf("Format(%d) = %q, want %q", n, s, want)
		}
	}
}

func TestNumberOfFormat(t *testing.T) {
	for shift := range 64 {
		for d := int64(-3); d <= 3; d++ {
			n := int64(uint64(1)<<shift) + d
			wantNumber(t, words.Format(n), n)
			wantNumber(t, words.Format(-n), -n)
		}
	}
}
