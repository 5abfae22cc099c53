package words_test

import (
	"slices"
	"strings"
	"testing"
	"unsafe"

	"limewash/api"
	"limewash/words"
)

func bare(s string) api.Field   { return api.Field{S: s} }
func inside(s string) api.Field { return api.Field{S: s, Quoted: true} }

func compareSplit(t *testing.T, line string, want []api.Field, wantE api.Errno) {
	t.Helper()
	if l, e := words.Split(line); !slices.Equal(l, want) || e != wantE {
		t.Errorf("Split(%.60q): %d fields, %d, want %d, %d", line, len(l), e, len(want), wantE)
	}
}

func compareJoin(t *testing.T, l []api.Field, want string, wantE api.Errno) {
	t.Helper()
	kept := slices.Clone(l)
	if line, e := words.Join(l); line != want || e != wantE {
		t.Errorf("Join of %d fields: %.60q, %d, want %.60q, %d", len(l), line, e, want, wantE)
	}
	if !slices.Equal(l, kept) {
		t.Errorf("Join has changed its argument")
	}
}

// compareLine is for a line and its fields, both ways.
func compareLine(t *testing.T, line string, l []api.Field) {
	t.Helper()
	compareSplit(t, line, l, api.OK)
	compareJoin(t, l, line, api.OK)
}

// TestLine is for P1.3, P1.4 and P1.7: ordinary lines.
func TestLine(t *testing.T) {
	compareLine(t, "", nil)
	compareJoin(t, []api.Field{}, "", api.OK)
	compareLine(t, `get / "a b"`, []api.Field{bare("get"), bare("/"), inside("a b")})
	compareLine(t, `""`, []api.Field{inside("")})
	compareLine(t, `"" ""`, []api.Field{inside(""), inside("")})
	compareLine(t, `a "a" b`, []api.Field{bare("a"), inside("a"), bare("b")})
	compareLine(t, `" " - "\" \\"`, []api.Field{inside(" "), bare("-"), inside(`" \`)})
	compareLine(t, `"\n\r\t\x00\xff"`, []api.Field{inside("\n\r\t\x00\xff")})
	for c := range 256 {
		b := string([]byte{byte(c)})
		compareLine(t, "a "+quoted(b), []api.Field{bare("a"), inside(b)})
		if c >= 33 && c <= 126 && b != `"` && b != `\` {
			compareLine(t, b+" "+b+"a a"+b, []api.Field{bare(b), bare(b + "a"), bare("a" + b)})
			continue
		}
		compareJoin(t, []api.Field{bare("a"), bare(b)}, "", api.ErrForm)
		compareJoin(t, []api.Field{bare("a" + b), inside("")}, "", api.ErrForm)
		compareJoin(t, []api.Field{bare(b + "a")}, "", api.ErrForm)
		if b != " " {
			compareSplit(t, "a"+b+"a", nil, api.ErrForm)
			compareSplit(t, b, nil, api.ErrForm)
		}
	}
}

// lines returns all lines of at most most bytes of an alphabet, with their fields.
func lines(alphabet string, most int) map[string][]api.Field {
	written := map[string]api.Field{}
	for form, s := range insides(alphabet, most-2) {
		written[`"`+form+`"`] = inside(s)
	}
	plain := strings.NewReplacer(`"`, "", `\`, "", " ", "", "\n", "").Replace(alphabet)
	enumerate(plain, most, func(s string) {
		if s != "" {
			written[s] = bare(s)
		}
	})
	all := map[string][]api.Field{"": nil}
	var grow func(line string, l []api.Field)
	grow = func(line string, l []api.Field) {
		for w, f := range written {
			next := w
			if line != "" {
				next = line + " " + w
			}
			if len(next) <= most {
				all[next] = append(slices.Clone(l), f)
				grow(next, all[next])
			}
		}
	}
	grow("", nil)
	return all
}

// TestSplitForms is for P1.3 and P1.7: exactly the lines are split, and joined again.
func TestSplitForms(t *testing.T) {
	alphabet := "an\"\\ \n"
	valid := lines(alphabet, 6)
	enumerate(alphabet, 6, func(s string) {
		l, ok := valid[s]
		if !ok {
			compareSplit(t, s, nil, api.ErrForm)
			return
		}
		compareLine(t, s, l)
	})
}

// TestSplitErrors is for P1.3: the limits, and which error comes first.
func TestSplitErrors(t *testing.T) {
	a := func(n int) string { return strings.Repeat("a", n) }
	zeros := func(n int) string { return `"` + strings.Repeat(`\x00`, n) + `"` }
	var many []api.Field
	for range 64 {
		many = append(many, bare("a"))
	}
	sixtyFour := strings.Repeat("a ", 63) + "a"
	compareLine(t, sixtyFour, many)
	compareSplit(t, sixtyFour+" a", nil, api.ErrLong)
	compareSplit(t, sixtyFour+` ""`, nil, api.ErrLong)
	compareSplit(t, sixtyFour+" ", nil, api.ErrForm)
	compareSplit(t, sixtyFour+` a "`, nil, api.ErrForm)
	compareLine(t, a(2000), []api.Field{bare(a(2000))})
	compareSplit(t, a(2001), nil, api.ErrLong)
	compareSplit(t, a(2001)+"  b", nil, api.ErrForm)
	compareSplit(t, a(2001)+" é", nil, api.ErrForm)
	compareLine(t, `"`+a(2000)+`"`, []api.Field{inside(a(2000))})
	compareSplit(t, `"`+a(2001)+`"`, nil, api.ErrLong)
	compareLine(t, zeros(2000), []api.Field{inside(strings.Repeat("\x00", 2000))})
	compareSplit(t, zeros(2001), nil, api.ErrLong)
	compareSplit(t, zeros(2001)+" ", nil, api.ErrForm)
	compareSplit(t, zeros(2001)+`"`, nil, api.ErrForm)

	full := strings.Join([]string{a(2000), a(2000), a(2000), a(2000), a(188)}, " ")
	compareLine(t, full, []api.Field{bare(a(2000)), bare(a(2000)), bare(a(2000)), bare(a(2000)), bare(a(188))})
	compareSplit(t, full+"a", nil, api.ErrLong)
	compareSplit(t, full+" ", nil, api.ErrLong)
	compareSplit(t, a(8192), nil, api.ErrLong)
	compareSplit(t, strings.Repeat(" ", 8192), nil, api.ErrForm)
	compareSplit(t, strings.Repeat(" ", 8193), nil, api.ErrLong)
}

// TestJoinErrors is for P1.4: the limits, and which error comes first.
func TestJoinErrors(t *testing.T) {
	a := func(n int) string { return strings.Repeat("a", n) }
	many := slices.Repeat([]api.Field{bare("a")}, 65)
	compareJoin(t, many[:64], strings.Repeat("a ", 63)+"a", api.OK)
	compareJoin(t, many, "", api.ErrLong)
	compareJoin(t, slices.Repeat([]api.Field{bare("")}, 65), "", api.ErrLong)
	compareJoin(t, slices.Repeat([]api.Field{bare("")}, 64), "", api.ErrForm)
	compareJoin(t, []api.Field{bare(a(2001))}, "", api.ErrLong)
	compareJoin(t, []api.Field{inside(a(2001))}, "", api.ErrLong)
	compareJoin(t, []api.Field{bare(""), bare(a(2001))}, "", api.ErrLong)
	compareJoin(t, []api.Field{bare(strings.Repeat(" ", 2001))}, "", api.ErrLong)
	compareJoin(t, []api.Field{bare("")}, "", api.ErrForm)
	compareJoin(t, []api.Field{bare("a"), bare("a b")}, "", api.ErrForm)
	compareJoin(t, []api.Field{inside("a"), bare("")}, "", api.ErrForm)

	full := slices.Repeat([]api.Field{bare(a(2000))}, 4)
	compareJoin(t, append(slices.Clone(full), bare(a(189))), "", api.ErrLong)
	compareJoin(t, append(slices.Clone(full), bare(a(189)), bare("é")), "", api.ErrForm)
	compareJoin(t, append(slices.Clone(full), bare(a(189)), bare("")), "", api.ErrForm)
	compareJoin(t, slices.Repeat([]api.Field{inside(strings.Repeat("\n", 2000))}, 3), "", api.ErrLong)
	compareJoin(t, append(slices.Repeat([]api.Field{inside(strings.Repeat("\n", 2000))}, 2), inside(a(184))), quoted(strings.Repeat("\n", 2000))+" "+quoted(strings.Repeat("\n", 2000))+` "`+a(184)+`"`, api.OK)
	compareJoin(t, append(slices.Repeat([]api.Field{inside(strings.Repeat("\n", 2000))}, 2), inside(a(185))), "", api.ErrLong)
}

// someFields returns fields, now and then one that may not be.
func someFields(next func(int) int, n int) []api.Field {
	var l []api.Field
	for range n {
		var b []byte
		for range next(12) * next(12) {
			b = append(b, byte(33+next(50)))
		}
		if next(3) == 0 && len(b) > 0 {
			b[next(len(b))] = byte(next(256))
		}
		f := api.Field{S: string(b), Quoted: next(2) == 0}
		if next(8) != 0 && (f.S == "" || strings.Trim(f.S, "!#$%&'()*+,-./0123456789:;<=>?@ABCDEFGHIJKLMNOPQR") != "") {
			f.Quoted = true
		}
		l = append(l, f)
	}
	return l
}

// TestJoinAdds is for P1.7 and P1.8.
func TestJoinAdds(t *testing.T) {
	next := numbers(2)
	good, bad := 0, 0
	for range 4000 {
		first, second := someFields(next, 1+next(9)), someFields(next, 1+next(9))
		one, e1 := words.Join(first)
		two, e2 := words.Join(second)
		both, e := words.Join(slices.Concat(first, second))
		if e != api.OK {
			bad++
			if both != "" || e1 == api.OK && e2 == api.OK && len(one)+1+len(two) <= 8192 {
				t.Fatalf("Join of both: %.40q, %d", both, e)
			}
			continue
		}
		good++
		if both != one+" "+two || e1 != api.OK || e2 != api.OK {
			t.Fatalf("Join of both: %q, of each: %q, %q", both, one, two)
		}
		compareLine(t, both, slices.Concat(first, second))
	}
	if good < 500 || bad < 500 {
		t.Errorf("%d lines, %d errors", good, bad)
	}
}

func compareLines(t *testing.T, text string, want []string, wantE api.Errno) {
	t.Helper()
	if l, e := words.Lines(text); !slices.Equal(l, want) || e != wantE {
		t.Errorf("Lines(%.40q): %d lines, %d, want %d, %d", text, len(l), e, len(want), wantE)
	}
}

// TestLines is for P1.5.
func TestLines(t *testing.T) {
	compareLines(t, "", nil, api.OK)
	compareLines(t, "\n", []string{""}, api.OK)
	compareLines(t, "a\n\n b\r\n\x00\xff\n", []string{"a", "", " b\r", "\x00\xff"}, api.OK)
	enumerate("a\n\r", 6, func(s string) {
		if s != "" && s[len(s)-1] != '\n' {
			compareLines(t, s, nil, api.ErrForm)
			return
		}
		l := strings.Split(s, "\n")
		compareLines(t, s, l[:len(l)-1], api.OK)
	})
	feeds := func(n int) string { return strings.Repeat("\n", n) }
	compareLines(t, feeds(5000), make([]string, 5000), api.OK)
	compareLines(t, feeds(5001), nil, api.ErrLong)
	compareLines(t, feeds(5001)+"x", nil, api.ErrForm)
	compareLines(t, feeds(5000)+"x", nil, api.ErrForm)
	long := strings.Repeat("x", 1<<20-1)
	compareLines(t, long+"\n", []string{long}, api.OK)
	compareLines(t, long+"x", nil, api.ErrForm)
	compareLines(t, long+"x\n", nil, api.ErrLong)
	compareLines(t, long+"xx", nil, api.ErrLong)
	compareLines(t, feeds(1<<20), nil, api.ErrLong)
}

// within reports whether a string is in the memory of another one.
func within(part, whole string) bool {
	p, w := uintptr(unsafe.Pointer(unsafe.StringData(part))), uintptr(unsafe.Pointer(unsafe.StringData(whole)))
	return p >= w && p < w+uintptr(len(whole))
}

// TestFresh is for P1.8: results share no memory with arguments or with other results.
func TestFresh(t *testing.T) {
	line := strings.Clone(`get path "a path"`)
	l, _ := words.Split(line)
	for _, f := range l {
		if within(f.S, line) {
			t.Errorf("the field %q is a part of the line", f.S)
		}
	}
	l[0].S = "put"
	compareSplit(t, line, []api.Field{bare("get"), bare("path"), inside("a path")}, api.OK)
	word := strings.Clone("word")
	if s, e := words.Join([]api.Field{bare(word)}); e != api.OK || within(s, word) {
		t.Errorf("the line %q is the field", s)
	}
	text := strings.Clone("one line\nand another one\n")
	all, _ := words.Lines(text)
	for _, s := range all {
		if within(s, text) {
			t.Errorf("the line %q is a part of the text", s)
		}
	}
	all[0] = "none"
	compareLines(t, text, []string{"one line", "and another one"}, api.OK)
	form := strings.Clone(`"plain"`)
	if s, e := words.Unquote(form); e != api.OK || within(s, form) {
		t.Errorf("the string %q is a part of its quoted form", s)
	}
	first, _ := words.ParseList("1-3")
	second, _ := words.ParseList("1-3")
	first[0] = 9
	if second[0] != 1 {
		t.Errorf("two lists share memory")
	}
}
