package paths_test

import (
	"slices"
	"strconv"
	"strings"
	"testing"

	"limewash/api"
	"limewash/paths"
)

// key returns a string for a path: strings of paths are in the order of the paths, as no name has a byte 0, and one begins with that of another one exactly if it is under it.
func key(p []string) string {
	var s strings.Builder
	for _, name := range p {
		s.WriteString(name)
		s.WriteByte(0)
	}
	return s.String()
}

// wantCommon is what Common is to return.
func wantCommon(p, q []string) []string {
	for n := min(len(p), len(q)); n > 0; n-- {
		if slices.Equal(p[:n], q[:n]) {
			return p[:n]
		}
	}
	return nil
}

// comparePair compares what the functions with two paths return.
func comparePair(t *testing.T, p, q []string) {
	t.Helper()
	if c, e := paths.Compare(p, q); c != strings.Compare(key(p), key(q)) || e != api.OK {
		t.Fatalf("Compare(%q, %q): %d, %d", p, q, c, e)
	}
	if u, e := paths.Under(p, q); u != strings.HasPrefix(key(p), key(q)) || e != api.OK {
		t.Fatalf("Under(%q, %q): %t, %d", p, q, u, e)
	}
	c, e := paths.Common(p, q)
	comparePath(t, "Common", c, e, wantCommon(p, q), api.OK)
}

// TestPairs is for P3.3.
func TestPairs(t *testing.T) {
	all := append(small(3, "a", "b", "ab", "a-", "~", "!"), random(numbers(4), 300)...)
	for n := range 9 {
		all = append(all, deep(n), slices.Repeat([]string{letters(24)}, n), slices.Repeat([]string{letters(23)}, n), slices.Repeat([]string{letters(23) + "r"}, n))
	}
	for _, p := range all {
		for _, q := range all {
			comparePair(t, p, q)
		}
	}
}

// TestBytes is for P3.3: names are compared byte by byte, at each place.
func TestBytes(t *testing.T) {
	for at := range 24 {
		for c := byte(33); c < 127; c++ {
			for _, d := range []byte{33, c - 1, c, c + 1, 126} {
				if c == '/' || d == '/' || d < 33 || d > 126 {
					continue
				}
				p, q := letters(at)+string([]byte{c})+"z", letters(at)+string([]byte{d})+"a"
				if at == 23 {
					p, q = p[:24], q[:24]
				}
				comparePair(t, []string{"a", p}, []string{"a", q})
				comparePair(t, []string{p, "a"}, []string{q, "b"})
			}
		}
		if at > 0 {
			comparePair(t, []string{letters(at)}, []string{letters(at) + "!"})
			comparePair(t, []string{letters(at), "~"}, []string{letters(at) + "!"})
		}
	}
}

// TestPairExamples is for P3.3.
func TestPairExamples(t *testing.T) {
	for _, c := range []struct {
		a, b  string
		order int
		under bool
		both  string
	}{
		{"a/b", "a", 1, true, "a"},
		{"a/b", "a-", -1, false, ""},
		{"ab", "a/b", 1, false, ""},
		{"ab", "a", 1, false, ""},
		{"a", "", 1, true, ""},
		{"a/b", "a/c", -1, false, "a"},
		{"", "", 0, true, ""},
		{"a/b", "a/b", 0, true, "a/b"},
		{"a", "a/b", -1, false, "a"},
		{"A", "a", -1, false, ""},
		{"a/b/c", "a/x/c", -1, false, "a"},
	} {
		p, q := path(c.a), path(c.b)
		if n, e := paths.Compare(p, q); n != c.order || e != api.OK {
			t.Errorf("Compare of /%s and /%s: %d, %d", c.a, c.b, n, e)
		}
		if u, e := paths.Under(p, q); u != c.under || e != api.OK {
			t.Errorf("Under of /%s and /%s: %t, %d", c.a, c.b, u, e)
		}
		both, e := paths.Common(p, q)
		comparePath(t, "Common of /"+c.a+" and /"+c.b, both, e, path(c.both), api.OK)
	}
	if n, e := paths.Compare(nil, []string{}); n != 0 || e != api.OK {
		t.Errorf("Compare of the root, nil and empty: %d, %d", n, e)
	}
	if u, e := paths.Under([]string{}, nil); !u || e != api.OK {
		t.Errorf("Under of the root, empty and nil: %t, %d", u, e)
	}
}

// order is Compare of paths.
func order(t *testing.T, a, b []string) int {
	t.Helper()
	c, e := paths.Compare(a, b)
	if e != api.OK {
		t.Fatalf("Compare(%q, %q): %d", a, b, e)
	}
	return c
}

// TestTotalOrder is for P3.6.
func TestTotalOrder(t *testing.T) {
	all := append(small(2, "a", "b", "ab", "a-", "~"), random(numbers(5), 60)...)
	for _, a := range all {
		for _, b := range all {
			c := order(t, a, b)
			if c != -order(t, b, a) || (c == 0) != slices.Equal(a, b) {
				t.Fatalf("Compare(%q, %q): %d, and %d", a, b, c, order(t, b, a))
			}
			for _, d := range all {
				if c <= 0 && order(t, b, d) <= 0 && order(t, a, d) > 0 {
					t.Fatalf("%q is not after %q, this not after %q, but the first one is after the last one", a, b, d)
				}
			}
		}
	}
}

// distinct returns the paths of l, each one once.
func distinct(l [][]string) [][]string {
	seen := map[string]bool{}
	var once [][]string
	for _, p := range l {
		if !seen[key(p)] {
			once = append(once, p)
		}
		seen[key(p)] = true
	}
	return once
}

// shuffle returns the paths of l in another order.
func shuffle(next func(int) int, l [][]string) [][]string {
	l = slices.Clone(l)
	for i := range l {
		j := next(i + 1)
		l[i], l[j] = l[j], l[i]
	}
	return l
}

// compareSort compares Sort of a list in which no path is twice, and returns the sorted list.
func compareSort(t *testing.T, l [][]string) [][]string {
	t.Helper()
	var argument [][]string
	for _, p := range l {
		argument = append(argument, slices.Clone(p))
	}
	sorted, e := paths.Sort(l)
	want := slices.SortedFunc(slices.Values(l), func(p, q []string) int { return strings.Compare(key(p), key(q)) })
	if !slices.EqualFunc(sorted, want, slices.Equal) || e != api.OK {
		t.Fatalf("Sort(%q): %q, %d, want %q", l, sorted, e, want)
	}
	if !slices.EqualFunc(l, argument, slices.Equal) {
		t.Fatalf("Sort modified %q, it was %q", l, argument)
	}
	return sorted
}

// compareRun compares that the paths of a sorted list that are under q stand together, q first.
func compareRun(t *testing.T, sorted [][]string, q []string) {
	t.Helper()
	first, last, many, at := -1, -1, 0, -1
	for i, p := range sorted {
		u, e := paths.Under(p, q)
		if e != api.OK {
			t.Fatalf("Under(%q, %q): %d", p, q, e)
		}
		if slices.Equal(p, q) {
			at = i
		}
		if !u {
			continue
		}
		if many == 0 {
			first = i
		}
		last = i
		many++
	}
	if many > 0 && last-first+1 != many || at >= 0 && at != first {
		t.Fatalf("under %q: from %d to %d, %d paths; it is at %d of %q", q, first, last, many, at, sorted)
	}
}

// TestSort is for P3.5 and P3.7.
func TestSort(t *testing.T) {
	next := numbers(6)
	lists := [][][]string{nil, {}, {nil}, {path("a")}, {path("b"), path("a")}, {path("a"), nil}, {path("a-"), path("a/b"), path("ab"), path("a")}}
	all := small(3, "a", "b", "ab", "a-", "!")
	lists = append(lists, all, shuffle(next, all))
	for _, many := range []int{2, 3, 5, 20, 100, 500} {
		l := distinct(random(next, many))
		lists = append(lists, l, shuffle(next, l))
	}
	for _, l := range lists {
		sorted := compareSort(t, l)
		compareRun(t, sorted, nil)
		for _, p := range append(all, l...) {
			compareRun(t, sorted, p)
		}
	}
	l, e := paths.Sort([][]string{path("a-"), path("ab"), nil, path("a/b"), path("a")})
	if want := [][]string{nil, path("a"), path("a/b"), path("a-"), path("ab")}; !slices.EqualFunc(l, want, slices.Equal) || e != api.OK {
		t.Errorf("Sort: %q, %d", l, e)
	}
}

// many returns n paths, no two alike.
func many(n int) [][]string {
	var l [][]string
	for i := range n {
		l = append(l, []string{"p" + strconv.Itoa(i*7919%n)})
	}
	return l
}

func compareSortError(t *testing.T, l [][]string, want api.Errno) {
	t.Helper()
	if sorted, e := paths.Sort(l); len(sorted) > 0 || e != want {
		t.Errorf("Sort of %d paths: %d paths, %d, want %d", len(l), len(sorted), e, want)
	}
}

// TestSortErrors is for P3.5: the limit, paths that are twice, and which error comes first.
func TestSortErrors(t *testing.T) {
	compareSort(t, many(499))
	compareSort(t, many(500))
	compareSortError(t, many(501), api.ErrLong)
	compareSortError(t, many(2000), api.ErrLong)
	compareSortError(t, append(many(500), []string{""}), api.ErrLong)
	compareSortError(t, append([][]string{{""}}, many(500)...), api.ErrLong)
	compareSortError(t, slices.Repeat([][]string{nil}, 501), api.ErrLong)
	compareSortError(t, slices.Repeat([][]string{nil}, 500), api.ErrTwice)
	compareSortError(t, [][]string{nil, {}}, api.ErrTwice)
	compareSortError(t, [][]string{path("a"), path("b"), path("a")}, api.ErrTwice)
	compareSortError(t, [][]string{path("a/b"), path("a/b")}, api.ErrTwice)
	for i := range 20 {
		for j := range i {
			l := many(20)
			l[i] = l[j]
			compareSortError(t, l, api.ErrTwice)
			l[j] = deep(9)
			compareSortError(t, l, api.ErrLong)
			l[i] = []string{".."}
			compareSortError(t, l, api.ErrLong)
			l[i], l[j] = l[j], l[i]
			compareSortError(t, l, api.ErrForm)
		}
	}
	for i := range 20 {
		l := append(many(20), path("x"), path("x"))
		l[i] = []string{"a", ""}
		compareSortError(t, l, api.ErrForm)
	}
}
