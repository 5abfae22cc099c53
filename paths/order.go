package paths

import (
	"bytes"
	"cmp"
	"iter"
	"slices"

	"limewash/api"
)

// fixed is the bytes of a name, and bytes 0 after them. Names have no byte 0, so a name that is the beginning of another one comes first as an array too.
type fixed [api.MaxName]byte

// Compare returns -1, 0 or 1, if a comes before b, is b, or comes after b.
func Compare(a, b []string) (int, api.Errno) {
	if e := checkAll(a, b); e != api.OK {
		return 0, e
	}
	return compare(a, b), api.OK
}

// Under reports whether p is under q.
func Under(p, q []string) (bool, api.Errno) {
	if e := checkAll(p, q); e != api.OK {
		return false, e
	}
	return under(p, q), api.OK
}

// Common returns the path with the most names that p and q are under.
func Common(p, q []string) ([]string, api.Errno) {
	if e := checkAll(p, q); e != api.OK {
		return nil, e
	}
	return fresh(p[:common(p, q)]), api.OK
}

// Sort returns the paths of l in their order.
func Sort(l [][]string) ([][]string, api.Errno) {
	if len(l) > api.MaxPaths {
		return nil, api.ErrLong
	}
	if e := checkAll(l...); e != api.OK {
		return nil, e
	}
	sorted := make([][]string, len(l))
	for i, p := range l {
		sorted[i] = fresh(p)
	}
	slices.SortFunc(sorted, compare)
	for i := 1; i < len(sorted); i++ {
		if compare(sorted[i-1], sorted[i]) == 0 {
			return nil, api.ErrTwice
		}
	}
	return sorted, api.OK
}

// compare is Compare for paths that were checked.
func compare(a, b []string) int {
	for x, y := range abreast(a, b) {
		if x != y {
			return bytes.Compare(x[:], y[:])
		}
	}
	return cmp.Compare(len(a), len(b))
}

// under is Under for paths that were checked.
func under(p, q []string) bool {
	return common(p, q) == len(q)
}

// common returns how many names at the beginning of p and q are the same.
func common(p, q []string) int {
	n := 0
	for x, y := range abreast(p, q) {
		if x != y {
			break
		}
		n++
	}
	return n
}

// abreast yields the names of p and q side by side, as long as both have one.
func abreast(p, q []string) iter.Seq2[fixed, fixed] {
	return func(yield func(fixed, fixed) bool) {
		for i := range min(len(p), len(q)) {
			if !yield(fix(p[i]), fix(q[i])) {
				return
			}
		}
	}
}

func fix(name string) fixed {
	var f fixed
	copy(f[:], name)
	return f
}
