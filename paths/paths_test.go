package paths_test

import (
	"math"
	"slices"
	"strings"
	"testing"
	"unsafe"

	"limewash/api"
	"limewash/paths"
)

// bad are strings that are no names, with the errors of Name.
var bad = map[string]api.Errno{
	"": api.ErrForm, ".": api.ErrForm, "..": api.ErrForm, "/": api.ErrForm, "a/b": api.ErrForm, "a b": api.ErrForm, "\x7f": api.ErrForm, "é": api.ErrForm, "a\x00": api.ErrForm,
	letters(25): api.ErrLong, letters(4000): api.ErrLong, letters(24) + "/": api.ErrForm, letters(4000) + " ": api.ErrForm,
}

func letters(n int) string {
	return strings.Repeat("q", n)
}

// deep returns a path with n names.
func deep(n int) []string {
	var p []string
	for i := range n {
		p = append(p, string([]byte{byte('a' + i)}))
	}
	return p
}

// path returns the path with a text, written without the first slash.
func path(s string) []string {
	if s == "" {
		return nil
	}
	return strings.Split(s, "/")
}

// enumerate calls f with each string of at most most bytes of an alphabet.
func enumerate(alphabet string, most int, f func(string)) {
	var grow func(s string)
	grow = func(s string) {
		f(s)
		if len(s) == most {
			return
		}
		for i := range len(alphabet) {
			grow(s + alphabet[i:i+1])
		}
	}
	grow("")
}

// numbers returns a function that returns numbers below n, the same ones in each run.
func numbers(seed uint64) func(n int) int {
	return func(n int) int {
		seed = seed*6364136223846793005 + 1442695040888963407
		return int(seed>>33) % n
	}
}

// small returns all paths with at most most names, which are some of those given.
func small(most int, names ...string) [][]string {
	all := [][]string{nil}
	for i := 0; i < len(all) && len(all[i]) < most; i++ {
		for _, name := range names {
			all = append(all, append(slices.Clip(all[i]), name))
		}
	}
	return all
}

// random returns paths of all depths, which often begin alike.
func random(next func(int) int, many int) [][]string {
	all := [][]string{nil}
	for range many - 1 {
		like := all[next(len(all))]
		p := slices.Clone(like[:next(len(like)+1)])
		for range next(9 - len(p)) {
			p = append(p, randomName(next))
		}
		all = append(all, p)
	}
	return all
}

// randomName returns a name of any bytes and length; short ones of few bytes are frequent.
func randomName(next func(int) int) string {
	if next(2) == 0 {
		return []string{"a", "ab", "b", "-", "...", "A", "~", "!"}[next(8)]
	}
	b := make([]byte, 1+next(24))
	for i := range b {
		b[i] = byte(33 + next(94))
		if b[i] == '/' {
			b[i] = '0'
		}
	}
	if b[0] == '.' && len(b) <= 2 {
		b[0] = 'x'
	}
	return string(b)
}

// wantName is what Name is to return.
func wantName(s string) api.Errno {
	const few = "!\"#$%&'()*+,-.0123456789:;<=>?@ABCDEFGHIJKLMNOPQRSTUVWXYZ[\\]^_`abcdefghijklmnopqrstuvwxyz{|}~"
	if s == "" || s == "." || s == ".." || strings.Trim(s, few) != "" {
		return api.ErrForm
	}
	if len(s) > 24 {
		return api.ErrLong
	}
	return api.OK
}

// wantCheck is what Check is to return.
func wantCheck(p []string) api.Errno {
	if len(p) > 8 {
		return api.ErrLong
	}
	for _, s := range p {
		if e := wantName(s); e != api.OK {
			return e
		}
	}
	return api.OK
}

func compareName(t *testing.T, s string) {
	t.Helper()
	if e, want := paths.Name(s), wantName(s); e != want {
		t.Fatalf("Name(%.80q): %d, want %d", s, e, want)
	}
}

// comparePath compares a path and an error with those that are wanted.
func comparePath(t *testing.T, what string, p []string, e api.Errno, want []string, wantE api.Errno) {
	t.Helper()
	if !slices.Equal(p, want) || e != wantE {
		t.Fatalf("%.200s: %.200q, %d, want %.200q, %d", what, p, e, want, wantE)
	}
}

// TestName is for P3.1.
func TestName(t *testing.T) {
	for c := range 256 {
		b := string([]byte{byte(c)})
		for _, s := range []string{b, b + "a", "a" + b, "a" + b + "a", b + b, letters(23) + b, b + letters(23), letters(24) + b, b + letters(24), letters(12) + b + letters(12), letters(300) + b} {
			compareName(t, s)
		}
	}
	enumerate("./a-~ \x7f", 5, func(s string) { compareName(t, s) })
	for n := range 40 {
		compareName(t, letters(n))
		compareName(t, strings.Repeat(".", n))
	}
	for s, want := range map[string]api.Errno{"a.b": api.OK, "...": api.OK, ".a": api.OK, "a.": api.OK, "~!\"'\\": api.OK, "..": api.ErrForm, "a/b": api.ErrForm, letters(24): api.OK, letters(25): api.ErrLong} {
		if e := paths.Name(s); e != want {
			t.Errorf("Name(%q): %d", s, e)
		}
	}
	for s, want := range bad {
		if e := paths.Name(s); e != want {
			t.Errorf("Name(%.80q): %d", s, e)
		}
	}
	if e := paths.Name(letters(1<<20) + "\n"); e != api.ErrForm {
		t.Errorf("Name of a long string with a line feed: %d", e)
	}
}

// TestCheck is for P3.1.
func TestCheck(t *testing.T) {
	for n := range 12 {
		want := api.OK
		if n > 8 {
			want = api.ErrLong
		}
		if e := paths.Check(deep(n)); e != want {
			t.Errorf("Check of %d names: %d", n, e)
		}
		for s := range bad {
			for i := range n {
				p := deep(n)
				p[i] = s
				if n <= 8 {
					want = bad[s]
				}
				if e := paths.Check(p); e != want {
					t.Errorf("Check(%.80q): %d, want %d", p, e, want)
				}
			}
		}
	}
	if e := paths.Check(nil); e != api.OK {
		t.Errorf("Check of the root: %d", e)
	}
	if e := paths.Check(make([]string, 1000)); e != api.ErrLong {
		t.Errorf("Check of 1000 empty strings: %d", e)
	}
	for _, c := range []struct {
		p    []string
		want api.Errno
	}{
		{[]string{"a", "", letters(25)}, api.ErrForm},
		{[]string{"a", letters(25), ""}, api.ErrLong},
		{append(deep(8), ""), api.ErrLong},
		{append([]string{""}, deep(8)...), api.ErrLong},
	} {
		if e := paths.Check(c.p); e != c.want {
			t.Errorf("Check(%q): %d", c.p, e)
		}
	}
}

// wantParse is what Parse is to return, byte by byte.
func wantParse(s string) ([]string, api.Errno) {
	if s == "/" {
		return nil, api.OK
	}
	var p []string
	for i := range len(s) {
		if s[i] == '/' {
			p = append(p, "")
		} else if p == nil {
			return nil, api.ErrForm
		} else {
			p[len(p)-1] += s[i : i+1]
		}
	}
	if p == nil {
		return nil, api.ErrForm
	}
	if e := wantCheck(p); e != api.OK {
		return nil, e
	}
	return p, api.OK
}

// compareParse compares Parse, and Print of what it returns.
func compareParse(t *testing.T, s string) {
	t.Helper()
	p, e := paths.Parse(s)
	want, wantE := wantParse(s)
	comparePath(t, "Parse of "+s, p, e, want, wantE)
	if e != api.OK {
		return
	}
	if text, e := paths.Print(p); text != s || e != api.OK {
		t.Fatalf("Print of what Parse(%q) returns: %q, %d", s, text, e)
	}
}

// TestParse is for P3.2 and P3.8.
func TestParse(t *testing.T) {
	enumerate("/.a ", 8, func(s string) { compareParse(t, s) })
	for c := range 256 {
		b := string([]byte{byte(c)})
		for _, s := range []string{b, b + "/", b + "a", "/" + b, "/a" + b, "/" + b + "a", "/a/" + b, "/" + b + "/a", "/a" + b + "/b"} {
			compareParse(t, s)
		}
	}
	for n := range 12 {
		for s := range bad {
			text := "/" + strings.Join(append(deep(n), s), "/")
			compareParse(t, text)
			compareParse(t, text+"/a")
			compareParse(t, text[1:])
		}
		compareParse(t, "/"+strings.Join(deep(n), "/"))
		compareParse(t, strings.Repeat("/"+letters(24), n))
		compareParse(t, strings.Repeat("/", n))
	}
	for s, want := range map[string]api.Errno{
		"/": api.OK, "/a/bc": api.OK, "/a/": api.ErrForm, "a": api.ErrForm, "//a": api.ErrForm, "": api.ErrForm, " /a": api.ErrForm, "/a//b": api.ErrForm, "/a/../b": api.ErrForm, "/.": api.ErrForm,
		"/a/b/c/d/e/f/g/h": api.OK, "/a/b/c/d/e/f/g/h/": api.ErrLong, "/a/b/c/d/e/f/g/h/i": api.ErrLong, "//////////": api.ErrLong, "a/b/c/d/e/f/g/h/i": api.ErrForm, letters(25): api.ErrForm, "/" + letters(25): api.ErrLong,
		strings.Repeat("/", 1<<20): api.ErrLong, "/" + letters(1<<20): api.ErrLong, "/a/ /" + letters(25): api.ErrForm, "/a/" + letters(25) + "/ ": api.ErrLong,
	} {
		if p, e := paths.Parse(s); e != want || e != api.OK && len(p) > 0 {
			t.Errorf("Parse(%.80q): %.80q, %d, want %d", s, p, e, want)
		}
	}
	p, e := paths.Parse("/a/bc")
	comparePath(t, "Parse of /a/bc", p, e, []string{"a", "bc"}, api.OK)
}

// comparePrint compares Print, and Parse of what it returns.
func comparePrint(t *testing.T, p []string) {
	t.Helper()
	want := ""
	for _, s := range p {
		want += "/" + s
	}
	if len(p) == 0 {
		want = "/"
	}
	text, e := paths.Print(p)
	if text != want || e != api.OK {
		t.Fatalf("Print(%q): %q, %d", p, text, e)
	}
	again, e := paths.Parse(text)
	comparePath(t, "Parse of "+text, again, e, p, api.OK)
}

// TestPrint is for P3.2 and P3.8.
func TestPrint(t *testing.T) {
	comparePrint(t, nil)
	comparePrint(t, []string{})
	comparePrint(t, []string{"a", "bc"})
	comparePrint(t, []string{"...", ".a"})
	for n := range 9 {
		comparePrint(t, deep(n))
		comparePrint(t, slices.Repeat([]string{letters(24)}, n))
	}
	for _, p := range random(numbers(1), 500) {
		comparePrint(t, p)
	}
}

// TestParent is for P3.4 and P3.8.
func TestParent(t *testing.T) {
	for _, root := range [][]string{nil, {}} {
		p, last, e := paths.Parent(root)
		comparePath(t, "Parent of the root", p, e, nil, api.ErrNone)
		if last != "" {
			t.Errorf("Parent of the root: %q", last)
		}
	}
	for _, p := range append(random(numbers(2), 500), path("a/b"), path("a"), deep(8))[1:] {
		parent, last, e := paths.Parent(p)
		if len(p) == 0 {
			continue
		}
		comparePath(t, "Parent", parent, e, p[:len(p)-1], api.OK)
		if last != p[len(p)-1] {
			t.Errorf("Parent(%q): %q", p, last)
		}
		again, e := paths.Join(parent, last)
		comparePath(t, "Join of what Parent returns", again, e, p, api.OK)
	}
}

// TestJoin is for P3.4.
func TestJoin(t *testing.T) {
	for n := range 12 {
		for _, name := range []string{"a", "a.b", "...", letters(24)} {
			p, e := paths.Join(deep(n), name)
			if n < 8 {
				comparePath(t, "Join", p, e, append(deep(n), name), api.OK)
			} else {
				comparePath(t, "Join", p, e, nil, api.ErrLong)
			}
		}
		for name, want := range bad {
			p, e := paths.Join(deep(n), name)
			if n > 8 {
				want = api.ErrLong
			}
			comparePath(t, "Join of "+name, p, e, nil, want)
		}
	}
	for s, want := range bad {
		for _, name := range []string{"a", "", letters(25)} {
			p, e := paths.Join([]string{"a", s}, name)
			comparePath(t, "Join of a path with "+s, p, e, nil, want)
		}
	}
}

// wantMove is what Move is to return, by texts.
func wantMove(p, from, to []string) ([]string, api.Errno) {
	below, ok := strings.CutPrefix(key(p), key(from))
	if !ok {
		return nil, api.ErrNone
	}
	text := key(to) + below
	if strings.Count(text, "\x00") > 8 {
		return nil, api.ErrLong
	}
	return strings.Split(text, "\x00")[:strings.Count(text, "\x00")], api.OK
}

// compareMove compares Move, and moves what it returns back.
func compareMove(t *testing.T, p, from, to []string) {
	t.Helper()
	moved, e := paths.Move(p, from, to)
	want, wantE := wantMove(p, from, to)
	comparePath(t, "Move", moved, e, want, wantE)
	if e != api.OK {
		return
	}
	back, e := paths.Move(moved, to, from)
	comparePath(t, "Move back", back, e, p, api.OK)
}

// TestMove is for P3.4 and P3.8.
func TestMove(t *testing.T) {
	all := small(3, "a", "b", "ab")
	for _, p := range all {
		for _, from := range all {
			for _, to := range all {
				compareMove(t, p, from, to)
			}
		}
	}
	for n := range 9 {
		for m := range n + 1 {
			for k := range 9 {
				compareMove(t, deep(n), deep(m), slices.Repeat([]string{"z"}, k))
			}
		}
	}
	next := numbers(3)
	for _, p := range random(next, 300) {
		for range 5 {
			compareMove(t, p, p[:next(len(p)+1)], random(next, 3)[2])
		}
	}
	for _, c := range []struct {
		p, from, to, want string
		e                 api.Errno
	}{
		{"a/b", "a", "x/y", "x/y/b", api.OK},
		{"a", "b", "", "", api.ErrNone},
		{"", "", "a", "a", api.OK},
		{"a", "a", "", "", api.OK},
		{"", "a", "b", "", api.ErrNone},
		{"a/b", "", "a", "a/a/b", api.OK},
		{"ab", "a", "c", "", api.ErrNone},
		{"a", "b", "a/b/c/d/e/f/g/h", "", api.ErrNone},
		{"a/b", "a", "a/b/c/d/e/f/g/h", "", api.ErrLong},
		{"a/b", "a/b", "a/b/c/d/e/f/g/h", "a/b/c/d/e/f/g/h", api.OK},
	} {
		p, e := paths.Move(path(c.p), path(c.from), path(c.to))
		comparePath(t, "Move of "+c.p+" from "+c.from+" to "+c.to, p, e, path(c.want), c.e)
	}
}

// wrong are lists that are no paths, with the errors of Check.
func wrong() map[api.Errno][]string {
	return map[api.Errno][]string{api.ErrForm: {"a", ".."}, api.ErrLong: deep(9)}
}

// TestFirstError is for P3.1 to P3.4: the errors of Check come first, for one path after the other, and other results are zero then.
func TestFirstError(t *testing.T) {
	for e1, bad1 := range wrong() {
		if s, e := paths.Print(bad1); s != "" || e != e1 {
			t.Errorf("Print(%q): %q, %d", bad1, s, e)
		}
		p, last, e := paths.Parent(bad1)
		comparePath(t, "Parent", p, e, nil, e1)
		if last != "" {
			t.Errorf("Parent(%q): %q", bad1, last)
		}
		p, e = paths.Join(bad1, "")
		comparePath(t, "Join", p, e, nil, e1)
		for e2, bad2 := range wrong() {
			for _, good := range [][]string{nil, {"b"}, {"a", "b"}, deep(8)} {
				compareTwo(t, bad1, good, e1)
				compareTwo(t, good, bad2, e2)
				compareTwo(t, bad1, bad2, e1)
				for _, other := range [][]string{nil, bad1, bad2, good} {
					p, e := paths.Move(bad1, other, bad2)
					comparePath(t, "Move of a wrong path", p, e, nil, e1)
				}
				p, e := paths.Move(good, bad2, bad1)
				comparePath(t, "Move from a wrong path", p, e, nil, e2)
				p, e = paths.Move([]string{"z"}, good, bad2)
				comparePath(t, "Move to a wrong path", p, e, nil, e2)
			}
		}
	}
}

// compareTwo calls the functions with two paths, of which one is none.
func compareTwo(t *testing.T, a, b []string, want api.Errno) {
	t.Helper()
	if c, e := paths.Compare(a, b); c != 0 || e != want {
		t.Fatalf("Compare(%q, %q): %d, %d, want %d", a, b, c, e, want)
	}
	if u, e := paths.Under(a, b); u || e != want {
		t.Fatalf("Under(%q, %q): %t, %d, want %d", a, b, u, e, want)
	}
	p, e := paths.Common(a, b)
	comparePath(t, "Common", p, e, nil, want)
}

// place returns where the bytes of a string begin.
func place(s string) uintptr {
	return uintptr(unsafe.Pointer(unsafe.StringData(s)))
}

// compareApart compares that no two strings of lists share memory.
func compareApart(t *testing.T, what string, lists ...[]string) {
	t.Helper()
	all := slices.Concat(lists...)
	for i, s := range all {
		for _, other := range all[:i] {
			if place(s) < place(other)+uintptr(len(other)) && place(other) < place(s)+uintptr(len(s)) {
				t.Errorf("%s: %q and %q share memory", what, s, other)
			}
		}
	}
}

// scribble writes over the strings of p, also where it has room for more.
func scribble(p []string) {
	p = p[:cap(p)]
	for i := range p {
		p[i] = "scribbled"
	}
}

// own returns p with strings in memory of their own.
func own(p []string) []string {
	q := make([]string, len(p))
	for i, s := range p {
		q[i] = strings.Clone(s)
	}
	return q
}

// TestFresh is for P3.8: arguments are not modified, and results are new memory.
func TestFresh(t *testing.T) {
	// The strings are longer than one byte: those of one byte may be constants of the library.
	text := strings.Clone("/first/second/third")
	p, _ := paths.Parse(text)
	compareApart(t, "Parse", p, []string{text})
	scribble(p)
	if text != "/first/second/third" {
		t.Errorf("Parse modified its argument: %q", text)
	}
	whole := own(path("first/second/third/fourth"))
	a, b := whole[:3], own(path("first/second/fourth"))
	name := strings.Clone("name")
	calls := map[string]func() [][]string{
		"Common": func() [][]string { p, _ := paths.Common(a, b); return [][]string{p} },
		"Parent": func() [][]string { p, last, _ := paths.Parent(a); return [][]string{p, {last}} },
		"Join":   func() [][]string { p, _ := paths.Join(a, name); return [][]string{p} },
		"Move":   func() [][]string { p, _ := paths.Move(a, a[:1], b[:2]); return [][]string{p} },
		"Print":  func() [][]string { s, _ := paths.Print(a[:1]); return [][]string{{s}} },
		"Sort":   func() [][]string { l, _ := paths.Sort([][]string{b, a, a[:2], b[:1]}); return l },
	}
	for what, call := range calls {
		first, second := call(), call()
		if len(first) == 0 {
			t.Errorf("%s returns nothing", what)
		}
		compareApart(t, what, slices.Concat(first...), slices.Concat(second...), whole, b, []string{name})
		want := slices.Concat(second...)
		for i, p := range first {
			rest := slices.Concat(first[i+1:]...)
			scribble(p)
			if !slices.Equal(slices.Concat(first[i+1:]...), rest) {
				t.Errorf("%s: two lists of a result share memory", what)
			}
		}
		if !slices.Equal(whole, path("first/second/third/fourth")) || !slices.Equal(b, path("first/second/fourth")) || !slices.Equal(slices.Concat(second...), want) {
			t.Errorf("%s: an argument or another result is modified", what)
		}
	}
}

// TestManyNames is for P3.8: any arguments are accepted.
func TestManyNames(t *testing.T) {
	long := slices.Repeat([]string{letters(1 << 10)}, math.MaxUint16)
	compareTwo(t, long, nil, api.ErrLong)
	compareTwo(t, nil, long, api.ErrLong)
	if s, e := paths.Print(long); s != "" || e != api.ErrLong {
		t.Errorf("Print of many names: %d", e)
	}
}
