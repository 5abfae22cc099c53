package bits_test

import (
	"math"
	"strings"
	"testing"

	"limewash/api"
	"limewash/bits"
)

// found returns what a search of the map s is to return, if at is where it was found, counted from base on, or -1.
func found(s string, from, base, at int) (int, api.Errno) {
	if from < 0 || from > len(s) {
		return 0, api.ErrRange
	}
	if at < 0 {
		return 0, api.ErrNone
	}
	return base + at, api.OK
}

// tail and head are the parts of s that are searched from a place on, and below it.
func tail(s string, from int) string {
	if from < 0 || from > len(s) {
		return ""
	}
	return s[from:]
}

func head(s string, before int) string {
	if before < 0 || before > len(s) {
		return ""
	}
	return s[:before]
}

// compareNext tells Next and Last of the map m, which is s.
func compareNext(t *testing.T, m *bits.Map, s string, from int, v bool) {
	t.Helper()
	want, wantE := found(s, from, from, strings.Index(tail(s, from), digit(v)))
	if i, e := m.Next(from, v); i != want || e != wantE {
		t.Errorf("Next(%d, %t) of %.80s: %d, %d, want %d, %d", from, v, s, i, e, want, wantE)
	}
	want, wantE = found(s, from, 0, strings.LastIndex(head(s, from), digit(v)))
	if i, e := m.Last(from, v); i != want || e != wantE {
		t.Errorf("Last(%d, %t) of %.80s: %d, %d, want %d, %d", from, v, s, i, e, want, wantE)
	}
}

// compareRun tells Run of the map m, which is s.
func compareRun(t *testing.T, m *bits.Map, s string, from, n int, v bool) {
	t.Helper()
	at := -1
	if n >= 1 && n <= len(s) {
		at = strings.Index(tail(s, from), strings.Repeat(digit(v), n))
	}
	want, wantE := found(s, from, from, at)
	if n < 1 && wantE != api.ErrRange {
		want, wantE = 0, api.ErrArg
	}
	if i, e := m.Run(from, n, v); i != want || e != wantE {
		t.Errorf("Run(%d, %d, %t) of %.80s: %d, %d, want %d, %d", from, n, v, s, i, e, want, wantE)
	}
}

// TestFind is for P2.3 and P2.4: all searches in all maps with few bits.
func TestFind(t *testing.T) {
	for _, s := range small(10) {
		m := build(t, s)
		for _, v := range []bool{false, true} {
			for from := -2; from <= len(s)+2; from++ {
				compareNext(t, m, s, from, v)
				for n := -2; n <= len(s)+2; n++ {
					compareRun(t, m, s, from, n, v)
				}
			}
		}
		compareMap(t, m, s)
	}
}

// TestFindLarge is for P2.3 and P2.4: the edges of large maps.
func TestFindLarge(t *testing.T) {
	for _, s := range large() {
		m := build(t, s)
		some := arguments(len(s))
		for _, v := range []bool{false, true} {
			for _, from := range some {
				compareNext(t, m, s, from, v)
				for _, n := range some {
					compareRun(t, m, s, from, n, v)
				}
			}
		}
		compareMap(t, m, s)
	}
}

// TestRunEdges is for P2.4: runs at the end of a map, and over the edges of words.
func TestRunEdges(t *testing.T) {
	for _, size := range []int{10, 64, 65, 200, 4096} {
		for _, n := range []int{1, 2, 9, 64, 65, 130} {
			for _, from := range []int{0, 1, 3, 62, 63, 64, size - n - 1, size - n, size - n + 1} {
				if n > size || from < 0 || from > size {
					continue
				}
				for _, v := range []bool{false, true} {
					bits := strings.Repeat(digit(!v), from) + strings.Repeat(digit(v), min(n, size-from))
					s := bits + strings.Repeat(digit(!v), size-len(bits))
					m := build(t, s)
					for _, start := range []int{0, from, min(from+1, size)} {
						compareRun(t, m, s, start, n, v)
						compareRun(t, m, s, start, n-1, v)
						compareRun(t, m, s, start, n+1, v)
					}
				}
			}
		}
	}
}

// TestRunErrors is for P2.4: which error comes first.
func TestRunErrors(t *testing.T) {
	m := build(t, "0110")
	for _, n := range []int{math.MinInt, -1, 0, 1, 5, math.MaxInt} {
		for _, from := range []int{math.MinInt, -1, 5, math.MaxInt} {
			if i, e := m.Run(from, n, true); i != 0 || e != api.ErrRange {
				t.Errorf("Run(%d, %d): %d, %d", from, n, i, e)
			}
		}
		want := api.ErrNone
		if n < 1 {
			want = api.ErrArg
		}
		if i, e := m.Run(4, n, true); i != 0 || e != want {
			t.Errorf("Run(4, %d): %d, %d, want %d", n, i, e, want)
		}
	}
}

// TestFindProperties is for P2.7.
func TestFindProperties(t *testing.T) {
	next := numbers(5)
	for range 300 {
		s := random(next, 1+next(300), 2+next(10))
		m := build(t, s)
		from, v := next(len(s)+1), next(2) == 1
		if i, e := m.Next(from, v); e == api.OK {
			if got := strings.Count(s[from:i], digit(v)); got != 0 || s[i:i+1] != digit(v) {
				t.Errorf("Next(%d, %t) of %s: %d", from, v, s, i)
			}
			if last, e := m.Last(i+1, v); last != i || e != api.OK {
				t.Errorf("Last(%d, %t) of %s: %d, %d", i+1, v, s, last, e)
			}
		}
		n := 1 + next(12)
		run := strings.Repeat(digit(v), n)
		i, e := m.Run(from, n, v)
		if e != api.OK {
			i = len(s) - n + 1
		} else if s[i:i+n] != run {
			t.Errorf("Run(%d, %d, %t) of %s: %d", from, n, v, s, i)
		}
		for k := from; k < i; k++ {
			if s[k:k+n] == run {
				t.Errorf("Run(%d, %d, %t) of %s: %d, but there is one at %d", from, n, v, s, i, k)
			}
		}
	}
}
