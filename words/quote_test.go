package words_test

import (
	"fmt"
	"strings"
	"testing"

	"limewash/api"
	"limewash/words"
)

// written is what stands for a byte in a quoted form, as the chapter says it.
func written(c byte) string {
	switch {
	case c == '"':
		return `\"`
	case c == '\\':
		return `\\`
	case c == 10:
		return `\n`
	case c == 13:
		return `\r`
	case c == 9:
		return `\t`
	case c >= 32 && c <= 126:
		return string(rune(c))
	}
	return fmt.Sprintf(`\x%02x`, c)
}

// quoted is the quoted form of s.
func quoted(s string) string {
	var b strings.Builder
	for i := range len(s) {
		b.WriteString(written(s[i]))
	}
	return `"` + b.String() + `"`
}

// insides returns what may stand between the quotes of a quoted form, of at most most bytes of an alphabet, with the string of each.
func insides(alphabet string, most int) map[string]string {
	all := map[string]string{}
	var grow func(form, s string)
	grow = func(form, s string) {
		all[form] = s
		for c := range 256 {
			w := written(byte(c))
			if len(form)+len(w) <= most && strings.Trim(w, alphabet) == "" {
				grow(form+w, s+string([]byte{byte(c)}))
			}
		}
	}
	grow("", "")
	return all
}

// TestQuote is for P1.2 and P1.7.
func TestQuote(t *testing.T) {
	list := []string{"", "a\n\x00\"", "a b", "\\x41", "\"\"", "é", strings.Repeat("\x00\"a\\", 300000)}
	for c := range 256 {
		list = append(list, string([]byte{byte(c)}))
		for d := range 256 {
			list = append(list, string([]byte{byte(c), byte(d)}))
		}
	}
	for _, s := range list {
		form := words.Quote(s)
		if want := quoted(s); form != want {
			t.Errorf("Quote(%.40q): %.40s, want %.40s", s, form, want)
		}
		if back, e := words.Unquote(form); back != s || e != api.OK {
			t.Errorf("Unquote of Quote(%.40q): %.40q, %d", s, back, e)
		}
	}
	if got := words.Quote("a\n\x00\""); got != `"a\n\x00\""` {
		t.Errorf("Quote of the example: %s", got)
	}
}

func compareUnquote(t *testing.T, form, want string, valid bool) {
	t.Helper()
	wantE := api.OK
	if !valid {
		want, wantE = "", api.ErrForm
	}
	if got, e := words.Unquote(form); got != want || e != wantE {
		t.Errorf("Unquote(%q): %q, %d, want %q, %d", form, got, e, want, wantE)
	}
}

// TestUnquoteForms is for P1.2: exactly the quoted forms are read.
func TestUnquoteForms(t *testing.T) {
	alphabet := "\"\\xnrt017fF"
	valid := insides(alphabet, 5)
	enumerate(alphabet, 5, func(s string) {
		want, ok := valid[s]
		compareUnquote(t, `"`+s+`"`, want, ok)
		if s != "" {
			whole := len(s) >= 2 && s[0] == '"' && s[len(s)-1] == '"'
			if whole {
				want, ok = valid[s[1:len(s)-1]]
			}
			compareUnquote(t, s, want, whole && ok)
		}
	})
	for c := range 256 {
		b := byte(c)
		plain := written(b) == string([]byte{b})
		compareUnquote(t, `"`+string([]byte{b})+`"`, string([]byte{b}), plain)
		compareUnquote(t, `"`+written(b)+`"`, string([]byte{b}), true)
		for _, format := range []string{`"\x%02x"`, `"\x%02X"`} {
			form := fmt.Sprintf(format, c)
			compareUnquote(t, form, string([]byte{b}), form == `"`+written(b)+`"`)
		}
		letter := `\` + string([]byte{b})
		s, ok := map[string]string{`\"`: `"`, `\\`: `\`, `\n`: "\n", `\r`: "\r", `\t`: "\t"}[letter]
		compareUnquote(t, `"`+letter+`"`, s, ok)
	}
}

// TestUnquoteInvalid is for P1.2: the edges.
func TestUnquoteInvalid(t *testing.T) {
	for _, s := range []string{"", `"`, `a`, `"a`, `a"`, `"\"`, `"\x41"`, `"\x7F"`, `"\x0"`, `"\x"`, `"\x0`, `"\x00`, `"\`, `"a"b`, `"a" `, ` "a"`, `"a""b"`, "\"\n\"", "\"\x00\"", "\"\x80\"", "\"é\"", `'a'`, `"\x 1"`, `"\x1 "`, `"\xg0"`, `"\x0g"`} {
		compareUnquote(t, s, "", false)
	}
	long := strings.Repeat("a", 1<<21)
	compareUnquote(t, `"`+long+`"`, long, true)
	compareUnquote(t, `"`+long, "", false)
}
