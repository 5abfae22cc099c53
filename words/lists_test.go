package words_test

import (
	"slices"
	"strconv"
	"strings"
	"testing"

	"limewash/api"
	"limewash/words"
)

func compareList(t *testing.T, l []int, want string, wantE api.Errno) {
	t.Helper()
	kept := slices.Clone(l)
	if s, e := words.List(l); s != want || e != wantE {
		t.Errorf("List of %d integers: %.60q, %d, want %.60q, %d", len(l), s, e, want, wantE)
	}
	if !slices.Equal(l, kept) {
		t.Errorf("List has changed its argument")
	}
}

func compareParse(t *testing.T, s string, want []int, wantE api.Errno) {
	t.Helper()
	if l, e := words.ParseList(s); !slices.Equal(l, want) || e != wantE {
		t.Errorf("ParseList(%.60q): %d integers, %d, want %d, %d", s, len(l), e, len(want), wantE)
	}
}

// compareExpression is for a list and its expression, both ways.
func compareExpression(t *testing.T, l []int, s string) {
	t.Helper()
	compareList(t, l, s, api.OK)
	compareParse(t, s, l, api.OK)
}

// expression is the list expression of a set, asked for by each number up to most.
func expression(has func(int) bool, most int) string {
	var runs []string
	for n := range most + 1 {
		if !has(n) || n > 0 && has(n-1) {
			continue
		}
		s := strconv.Itoa(n)
		last := n
		for has(last + 1) {
			last++
		}
		if last > n {
			s += "-" + strconv.Itoa(last)
		}
		runs = append(runs, s)
	}
	if runs == nil {
		return "-"
	}
	return strings.Join(runs, ",")
}

// upTo returns the integers from one to another.
func upTo(from, to int) []int {
	var l []int
	for n := from; n <= to; n++ {
		l = append(l, n)
	}
	return l
}

// apart returns many integers, no two of which follow each other, and their expression.
func apart(many int) ([]int, string) {
	var l []int
	var parts []string
	for i := range many {
		l = append(l, 2*i+3)
		parts = append(parts, strconv.Itoa(2*i+3))
	}
	return l, strings.Join(parts, ",")
}

// TestList is for P1.6 and P1.7.
func TestList(t *testing.T) {
	compareExpression(t, []int{1, 2, 3, 5, 8, 9}, "1-3,5,8-9")
	compareExpression(t, nil, "-")
	compareList(t, []int{}, "-", api.OK)
	compareExpression(t, []int{0}, "0")
	compareExpression(t, []int{0, 1}, "0-1")
	compareExpression(t, []int{0, 999999999, 1000000000}, "0,999999999-1000000000")
	compareExpression(t, []int{1000000000}, "1000000000")
	compareExpression(t, upTo(0, 499), "0-499")
	compareExpression(t, upTo(999999501, 1000000000), "999999501-1000000000")
	compareExpression(t, []int{9, 10, 98, 99, 100, 102}, "9-10,98-100,102")
	for _, from := range []int{0, 5, 90, 995} {
		for set := range 1 << 10 {
			var l []int
			for i := range 10 {
				if set>>i&1 == 1 {
					l = append(l, from+i)
				}
			}
			compareExpression(t, l, expression(func(n int) bool { return slices.Contains(l, n) }, from+10))
		}
	}
	l, s := apart(500)
	compareExpression(t, l, s)
}

// TestListErrors is for P1.6: the limits, and which error comes first.
func TestListErrors(t *testing.T) {
	for i, x := range []struct {
		l []int
		e api.Errno
	}{{[]int{2, 1}, api.ErrForm}, {[]int{1, 1}, api.ErrForm}, {[]int{1, 3, 2}, api.ErrForm}, {[]int{-1}, api.ErrRange}, {[]int{2, 1, -1}, api.ErrRange}, {[]int{2, 1, 1000000001}, api.ErrRange}, {[]int{1000000001}, api.ErrRange}, {[]int{-1 << 63}, api.ErrRange}, {[]int{1<<63 - 1}, api.ErrRange}, {upTo(-1, 499), api.ErrLong}, {upTo(0, 500), api.ErrLong}, {make([]int, 501), api.ErrLong}, {make([]int, 500), api.ErrForm}, {upTo(-1, 498), api.ErrRange}} {
		if s, e := words.List(x.l); s != "" || e != x.e {
			t.Errorf("%d: List: %q, %d, want %d", i, s, e, x.e)
		}
	}
}

// wellFormed reports whether s, with numbers that are not great, is the expression of a list: the one of the integers that it lists.
func wellFormed(s string) ([]int, bool) {
	if s == "-" {
		return nil, true
	}
	set := map[int]bool{}
	most := 0
	for _, part := range strings.Split(s, ",") {
		from, to, two := strings.Cut(part, "-")
		if !two {
			to = from
		}
		low, e1 := strconv.ParseUint(from, 10, 31)
		high, e2 := strconv.ParseUint(to, 10, 31)
		if e1 != nil || e2 != nil {
			return nil, false
		}
		for n := low; n <= high; n++ {
			set[int(n)] = true
			most = max(most, int(n))
		}
	}
	var l []int
	for n := range most + 1 {
		if set[n] {
			l = append(l, n)
		}
	}
	return l, expression(func(n int) bool { return set[n] }, most) == s
}

// TestParseListForms is for P1.6 and P1.7: exactly the list expressions are read.
func TestParseListForms(t *testing.T) {
	compare := func(s string) {
		l, ok := wellFormed(s)
		switch {
		case !ok:
			compareParse(t, s, nil, api.ErrForm)
		case len(l) > 500:
			compareParse(t, s, nil, api.ErrLong)
		default:
			compareExpression(t, l, s)
		}
	}
	enumerate("0123,-", 5, compare)
	enumerate("09-,+ ", 4, compare)
	for _, from := range []int{1, 8, 9, 10, 98, 99, 100, 999} {
		for _, to := range []int{0, 9, 10, 11, 99, 100, 101, 999, 1000, 1001, 1002} {
			for _, between := range []string{",", "-"} {
				s := strconv.Itoa(from) + between + strconv.Itoa(to)
				compare(s)
				compare("0-3," + s)
				compare(s + ",2000")
			}
		}
	}
}

// TestParseListErrors is for P1.6: the limits, numbers of any size, and which error comes first.
func TestParseListErrors(t *testing.T) {
	nines := strings.Repeat("9", 30)
	power := "1" + strings.Repeat("0", 30)
	_, tooMany := apart(501)
	_, full := apart(500)
	for s, want := range map[string]api.Errno{
		"": api.ErrForm, "1-3,4": api.ErrForm, "3-3": api.ErrForm, "2,1": api.ErrForm, "1,": api.ErrForm, ",1": api.ErrForm, "-,1": api.ErrForm, "1,-": api.ErrForm, "--": api.ErrForm, "1-": api.ErrForm, "-1": api.ErrForm, "1--2": api.ErrForm, "1-2-4": api.ErrForm, "1 ": api.ErrForm, "01": api.ErrForm, "0-01": api.ErrForm,
		"0-500": api.ErrLong, "0-600": api.ErrLong, "0-1000000000": api.ErrLong, "0-249,251-501": api.ErrLong, "0-498,500-501": api.ErrLong, tooMany: api.ErrLong, full + ",2000-2001": api.ErrLong,
		"1000000001": api.ErrRange, "0-1000000001": api.ErrRange, "0,1000000001": api.ErrRange, "1000000000-1000000001": api.ErrRange, "0-600,1000000001": api.ErrRange, tooMany + ",1000000001": api.ErrRange, "2147483648": api.ErrRange, "4294967296": api.ErrRange, "18446744073709551616": api.ErrRange,
		"1000000001,5": api.ErrForm, "0-1000000001,": api.ErrForm, "0-600,601": api.ErrForm, tooMany + ",1": api.ErrForm,
		nines: api.ErrRange, power: api.ErrRange, nines + "-" + power: api.ErrRange, nines + "," + power: api.ErrForm, power + "," + nines: api.ErrForm, power + "-" + nines: api.ErrForm, nines + "-" + nines: api.ErrForm, nines + "," + power[:30] + "1": api.ErrRange, nines + "," + power[:30] + "0": api.ErrForm, nines + ",0" + power: api.ErrForm, "1-" + nines: api.ErrRange, power + "," + power[:30] + "2": api.ErrRange, power + "," + power[:30] + "1": api.ErrForm,
		strings.Repeat("9", 200000): api.ErrRange, strings.Repeat("0", 200000): api.ErrForm, strings.Repeat("9", 200000) + "x": api.ErrForm,
	} {
		compareParse(t, s, nil, want)
	}
	compareParse(t, "0-248,250-500", append(upTo(0, 248), upTo(250, 500)...), api.OK)
	compareParse(t, "0-498,500", append(upTo(0, 498), 500), api.OK)
}
