package words

import (
	"strings"

	"limewash/api"
)

// emptyList is the list expression of the empty list.
const emptyList = "-"

// span is a run of integers: the decimal forms of the first and of the last one, which may be of any size.
type span struct{ first, last string }

// List returns the list expression of l.
func List(l []int) (string, api.Errno) {
	if e := listError(l); e != api.OK {
		return "", e
	}
	if len(l) == 0 {
		return emptyList, api.OK
	}
	var runs []string
	for from := 0; from < len(l); {
		to := from
		for to+1 < len(l) && l[to+1] == l[to]+1 {
			to++
		}
		s := Digits(int64(l[from]))
		if to > from {
			s += "-" + Digits(int64(l[to]))
		}
		runs = append(runs, s)
		from = to + 1
	}
	return strings.Join(runs, ","), api.OK
}

// ParseList returns the list of which s is the list expression.
func ParseList(s string) ([]int, api.Errno) {
	if s == emptyList {
		return nil, api.OK
	}
	spans, ok := parseSpans(s)
	if !ok {
		return nil, api.ErrForm
	}
	// They ascend, so no integer is greater than the last one.
	if less(Digits(api.MaxNumber), spans[len(spans)-1].last) {
		return nil, api.ErrRange
	}
	var l []int
	for _, r := range spans {
		first, last := smallNumber(r.first), smallNumber(r.last)
		// This comes before the integers are listed, as there may be 10^9 of them.
		if last-first >= api.MaxListed-len(l) {
			return nil, api.ErrLong
		}
		for n := first; n <= last; n++ {
			l = append(l, n)
		}
	}
	return l, api.OK
}

// listError returns what keeps l from having a list expression.
func listError(l []int) api.Errno {
	if len(l) > api.MaxListed {
		return api.ErrLong
	}
	for _, n := range l {
		if n < 0 || n > api.MaxNumber {
			return api.ErrRange
		}
	}
	for i := 1; i < len(l); i++ {
		if l[i] <= l[i-1] {
			return api.ErrForm
		}
	}
	return api.OK
}

// parseSpans reads the runs of a list expression that is not the empty list's.
func parseSpans(s string) ([]span, bool) {
	var spans []span
	for _, part := range strings.Split(s, ",") {
		r, ok := parseSpan(part)
		if !ok {
			return nil, false
		}
		// Runs are maximal: at least one integer is missing between two of them.
		if len(spans) > 0 && !less(successor(spans[len(spans)-1].last), r.first) {
			return nil, false
		}
		spans = append(spans, r)
	}
	return spans, true
}

// parseSpan reads a run: an integer, or the first one, a hyphen and the last one.
func parseSpan(s string) (span, bool) {
	first, last, long := strings.Cut(s, "-")
	if !long {
		return span{s, s}, isNatural(s)
	}
	return span{first, last}, isNatural(first) && isNatural(last) && less(first, last)
}

// less reports whether an integer is less than another one, by their decimal forms, neither of which is negative.
func less(a, b string) bool {
	if len(a) != len(b) {
		return len(a) < len(b)
	}
	return a < b
}

// successor returns the decimal form of the integer after n, which is not negative.
func successor(n string) string {
	b := []byte("0" + n)
	i := len(b) - 1
	for b[i] == '9' {
		b[i] = '0'
		i--
	}
	b[i]++
	if i > 0 {
		b = b[1:]
	}
	return string(b)
}

// smallNumber returns the integer of a decimal form that is from 0 to MaxNumber.
func smallNumber(s string) int {
	n, _ := Int(s, 0, api.MaxNumber)
	return int(n)
}
