package bits_test

import (
	"strings"
	"testing"

	"limewash/api"
	"limewash/bits"
)

// both returns the map with the bits that are true where f is, of the bits of a and b.
func both(a, b string, f func(x, y bool) bool) string {
	var s strings.Builder
	for i := range len(a) {
		s.WriteString(digit(f(a[i] == '1', b[i] == '1')))
	}
	return s.String()
}

// other returns the map with the other bits.
func other(s string) string {
	return strings.NewReplacer("0", "1", "1", "0").Replace(s)
}

// pairs calls f with pairs of maps with as many bits.
func pairs(f func(a, b string)) {
	for _, a := range small(5) {
		for _, b := range small(5) {
			if len(a) == len(b) {
				f(a, b)
			}
		}
	}
	all := large()
	for i, a := range all {
		for _, b := range all[i:] {
			if len(a) == len(b) {
				f(a, b)
			}
		}
	}
}

// TestCombine is for And, Or and Xor in P2.5, and for the counts in P2.6.
func TestCombine(t *testing.T) {
	pairs(func(a, b string) {
		m, o := build(t, a), build(t, b)
		and, e1 := m.And(o)
		or, e2 := m.Or(o)
		xor, e3 := m.Xor(o)
		if e1 != api.OK || e2 != api.OK || e3 != api.OK {
			t.Fatalf("And, Or and Xor of %.80s and %.80s: %d, %d, %d", a, b, e1, e2, e3)
		}
		compareMap(t, and, both(a, b, func(x, y bool) bool { return x && y }))
		compareMap(t, or, both(a, b, func(x, y bool) bool { return x || y }))
		compareMap(t, xor, both(a, b, func(x, y bool) bool { return x != y }))
		compareMap(t, m, a)
		compareMap(t, o, b)
		sum := 0
		for _, c := range []*bits.Map{and, or} {
			n, _ := c.Count(0, c.Len())
			sum += n
		}
		if sum != strings.Count(a+b, "1") {
			t.Errorf("And and Or of %.80s and %.80s have %d bits", a, b, sum)
		}
	})
}

// TestCombineErrors is for P2.5: maps with other numbers of bits.
func TestCombineErrors(t *testing.T) {
	sizes := []int{0, 1, 2, 8, 9, 64, 65, 4095, 4096}
	for _, a := range sizes {
		for _, b := range sizes {
			m, o := build(t, strings.Repeat("0", a)), build(t, strings.Repeat("0", b))
			if got := m.Same(o); got != (a == b) {
				t.Errorf("Same of %d and %d bits: %t", a, b, got)
			}
			if a == b {
				continue
			}
			for k, f := range []func(*bits.Map) (*bits.Map, api.Errno){m.And, m.Or, m.Xor} {
				if c, e := f(o); c != nil || e != api.ErrArg {
					t.Errorf("%d of %d and %d bits: %v, %d", k, a, b, c, e)
				}
			}
		}
	}
}

// TestCombineNew is for R3 in P2.8: the results are new memory.
func TestCombineNew(t *testing.T) {
	for _, s := range []string{"0110011100", strings.Repeat("011", 1365)} {
		m, o := build(t, s), build(t, other(s))
		and, _ := m.And(m)
		or, _ := o.Or(o)
		xor, _ := m.Xor(o)
		not, _ := o.Not()
		for _, c := range []*bits.Map{and, or, xor, not} {
			if c == m || c == o {
				t.Errorf("a result is one of the arguments")
			}
			c.Set(0, true)
			c.Turn(1)
			c.Fill(2, 3, c != xor)
		}
		compareMap(t, m, s)
		compareMap(t, o, other(s))
		m.Fill(0, len(s), false)
		compareMap(t, and, "1"+other(s)[1:2]+"111"+s[5:])
		compareMap(t, or, "1"+s[1:2]+"111"+other(s)[5:])
		compareMap(t, xor, "1"+"0"+"000"+strings.Repeat("1", len(s)-5))
		compareMap(t, not, "1"+other(s)[1:2]+"111"+s[5:])
	}
}

// TestNot is for Not in P2.5 and P2.6.
func TestNot(t *testing.T) {
	for _, s := range append(small(9), large()...) {
		m := build(t, s)
		not, e := m.Not()
		if e != api.OK {
			t.Fatalf("Not of %.80s: %d", s, e)
		}
		compareMap(t, not, other(s))
		compareMap(t, m, s)
		again, e := not.Not()
		if e != api.OK || !again.Same(m) {
			t.Errorf("Not of Not of %.80s: %d, and not the same", s, e)
		}
		if got := not.Same(m); got != (s == "") {
			t.Errorf("Not of %.80s is the same: %t", s, got)
		}
	}
}

// TestRulesOfSets is for P2.6.
func TestRulesOfSets(t *testing.T) {
	get := func(c *bits.Map, e api.Errno) *bits.Map {
		if e != api.OK {
			t.Fatalf("error %d", e)
		}
		return c
	}
	pairs(func(a, b string) {
		m, o := build(t, a), build(t, b)
		notM, notO := get(m.Not()), get(o.Not())
		if left, right := get(get(m.And(o)).Not()), get(notM.Or(notO)); !left.Same(right) {
			t.Errorf("Not of And of %.80s and %.80s is not Or of the Nots", a, b)
		}
		notAnd := get(get(m.And(o)).Not())
		if left, right := get(m.Xor(o)), get(get(m.Or(o)).And(notAnd)); !left.Same(right) {
			t.Errorf("Xor of %.80s and %.80s is not Or without And", a, b)
		}
	})
}

// TestSame is for Same in P2.5.
func TestSame(t *testing.T) {
	for _, a := range small(4) {
		for _, b := range small(4) {
			if got := build(t, a).Same(build(t, b)); got != (a == b) {
				t.Errorf("Same of %s and %s: %t", a, b, got)
			}
		}
	}
	for _, s := range large() {
		m := build(t, s)
		o, e := bits.Load(len(s), m.Bytes())
		if e != api.OK || !m.Same(o) || !o.Same(m) || !m.Same(m) {
			t.Errorf("Same of %.80s and its bytes: false", s)
		}
		for _, i := range arguments(len(s)) {
			if i < 0 || i >= len(s) {
				continue
			}
			o.Turn(i)
			if m.Same(o) || o.Same(m) {
				t.Errorf("Same of %.80s and with other bit %d: true", s, i)
			}
			o.Turn(i)
			if !m.Same(o) {
				t.Errorf("Same of %.80s with bit %d turned twice: false", s, i)
			}
		}
		o.Fill(0, len(s), true)
		o.Fill(0, len(s), false)
		if got := m.Same(o); got != !strings.Contains(s, "1") {
			t.Errorf("Same of %.80s and no bits: %t", s, got)
		}
	}
}

// TestIndependent is for R6: a map does not change with another one.
func TestIndependent(t *testing.T) {
	a, b := build(t, "0110"), build(t, "0110")
	a.Set(0, true)
	a.Turn(3)
	a.Fill(1, 2, false)
	compareMap(t, a, "1001")
	compareMap(t, b, "0110")
}
