package words

import (
	"strconv"

	"speculate/api"
)

// Number returns the number that s is the decimal form of.
func Number(s string) (int64, api.Errno) {
	if !isNumeral(s) {
		return 0, api.ErrSyntax
	}
	n, err := strconv.ParseInt(s, 10, 64)
	if err != nil {
		return 0, api.ErrRange
	}
	return n, api.OK
}

// Format returns the decimal form of n.
func Format(n int64) string { return strconv.FormatInt(n, 10) }

func isNumeral(s string) bool {
	digits := s
	if s != "" && s[0] == '-' {
		digits = s[1:]
	}
	if digits == "" {
		return false
	}
	// A 0 in front is a leading zero or belongs to -0, unless it is all there is.
	if digits[0] == '0' {
		return s == "0"
	}
	for _, c := range []byte(digits) {
		if c < '0' || c > '9' {
			return false
		}
	}
	return true
}
