package words

import (
	"strings"

	"limewash/api"
)

// escape is a byte that is escaped by a letter of its own.
type escape struct{ char, letter byte }

// escapes has all bytes that are escaped by a letter. Each other byte that does not stand for itself is escaped by \x and two digits.
var escapes = [5]escape{
	{'"', '"'},
	{'\\', '\\'},
	{'\n', 'n'},
	{'\r', 'r'},
	{'\t', 't'},
}

const hexDigits = "0123456789abcdef"

// Quote returns the quoted form of s.
func Quote(s string) string {
	return string(appendQuoted(nil, s))
}

// Unquote returns the string of which s is the quoted form.
func Unquote(s string) (string, api.Errno) {
	text, end, ok := readQuoted(s, 0)
	if !ok || end != len(s) {
		return "", api.ErrForm
	}
	return text, api.OK
}

// appendQuoted appends the quoted form of s to b.
func appendQuoted(b []byte, s string) []byte {
	b = append(b, '"')
	for i := range len(s) {
		b = appendChar(b, s[i])
	}
	return append(b, '"')
}

// appendChar appends what stands for the byte c in a quoted form.
func appendChar(b []byte, c byte) []byte {
	if isPlain(c) {
		return append(b, c)
	}
	if letter, ok := letterOf(c); ok {
		return append(b, '\\', letter)
	}
	return append(b, '\\', 'x', hexDigits[c>>4], hexDigits[c&15])
}

// readQuoted reads the quoted form that begins at s[at]. It returns the string and where the form ends.
func readQuoted(s string, at int) (string, int, bool) {
	if at >= len(s) || s[at] != '"' {
		return "", 0, false
	}
	var b []byte
	at++
	for at < len(s) && s[at] != '"' {
		c, n := readChar(s[at:])
		if n == 0 {
			return "", 0, false
		}
		b = append(b, c)
		at += n
	}
	if at == len(s) {
		return "", 0, false
	}
	return string(b), at + 1, true
}

// readChar reads the byte that the beginning of s, which is not empty, stands for in a quoted form, and how many bytes of s do so: none if s begins otherwise.
func readChar(s string) (byte, int) {
	if isPlain(s[0]) {
		return s[0], 1
	}
	if s[0] != '\\' || len(s) < 2 {
		return 0, 0
	}
	if c, ok := charOf(s[1]); ok {
		return c, 2
	}
	if s[1] != 'x' || len(s) < 4 {
		return 0, 0
	}
	c, ok := hexChar(s[2], s[3])
	if !ok {
		return 0, 0
	}
	return c, 4
}

// hexChar returns the byte with two digits, if it is one that is escaped by them: a string has only one quoted form.
func hexChar(high, low byte) (byte, bool) {
	h, l := strings.IndexByte(hexDigits, high), strings.IndexByte(hexDigits, low)
	if h < 0 || l < 0 {
		return 0, false
	}
	c := byte(h<<4 | l)
	if _, ok := letterOf(c); ok || isPlain(c) {
		return 0, false
	}
	return c, true
}

// letterOf returns the letter that escapes the byte c.
func letterOf(c byte) (byte, bool) {
	for i := range len(escapes) {
		if escapes[i].char == c {
			return escapes[i].letter, true
		}
	}
	return 0, false
}

// charOf returns the byte that a letter escapes.
func charOf(letter byte) (byte, bool) {
	for i := range len(escapes) {
		if escapes[i].letter == letter {
			return escapes[i].char, true
		}
	}
	return 0, false
}

// isPlain reports whether the byte c stands for itself in a quoted form.
func isPlain(c byte) bool {
	return c >= 32 && c <= 126 && c != '"' && c != '\\'
}
