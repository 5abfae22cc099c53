// Package words is layer 1: it reads and writes names, decimal numbers, quoted strings, lines of fields and lists of numbers (doc/01-words.md).
package words

import (
	"strconv"
	"strings"

	"limewash/api"
)

// Name reports whether s is a name: 1 to 16 bytes, a lower-case letter and then lower-case letters, digits and hyphens.
func Name(s string) bool {
	if s == "" || len(s) > api.MaxWord || !isLetter(s[0]) {
		return false
	}
	for i := 1; i < len(s); i++ {
		if !isLetter(s[i]) && !isDigit(s[i]) && s[i] != '-' {
			return false
		}
	}
	return true
}

// Int returns the integer of which s is the decimal form, if it is from low to high.
func Int(s string, low, high int64) (int64, api.Errno) {
	if !isDecimal(s) {
		return 0, api.ErrForm
	}
	// The form is checked above, so an error here is a number that int64 cannot hold.
	n, err := strconv.ParseInt(s, 10, 64)
	if err != nil || n < low || n > high {
		return 0, api.ErrRange
	}
	return n, api.OK
}

// Digits returns the decimal form of n.
func Digits(n int64) string {
	return strconv.FormatInt(n, 10)
}

// isDecimal reports whether s is the decimal form of an integer of any size.
func isDecimal(s string) bool {
	digits, negative := strings.CutPrefix(s, "-")
	return isNatural(digits) && !(negative && digits == "0")
}

// isNatural reports whether s is the decimal form of an integer of any size that is not negative.
func isNatural(s string) bool {
	for i := range len(s) {
		if !isDigit(s[i]) {
			return false
		}
	}
	return s == "0" || s != "" && s[0] != '0'
}

func isLetter(c byte) bool {
	return c >= 'a' && c <= 'z'
}

func isDigit(c byte) bool {
	return c >= '0' && c <= '9'
}
