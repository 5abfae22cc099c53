package bits_test

import (
	"bytes"
	"math"
	"strings"
	"testing"

	"limewash/api"
	"limewash/bits"
)

// The tests write a map as a string of 0 and 1, the bit 0 first, and a bit as one of these.
func digit(v bool) string {
	if v {
		return "1"
	}
	return "0"
}

// build returns the map s.
func build(t *testing.T, s string) *bits.Map {
	t.Helper()
	m, e := bits.New(len(s))
	if e != api.OK {
		t.Fatalf("New(%d): %d", len(s), e)
	}
	for i := range len(s) {
		if e := m.Set(i, s[i] == '1'); e != api.OK {
			t.Fatalf("Set(%d) of %d bits: %d", i, len(s), e)
		}
	}
	return m
}

// written returns a map as a string.
func written(m *bits.Map) string {
	var s strings.Builder
	for i := range m.Len() {
		v, e := m.Get(i)
		if e != api.OK {
			return "an error"
		}
		s.WriteString(digit(v))
	}
	return s.String()
}

// wantBytes returns the bytes of the map s.
func wantBytes(s string) []byte {
	var b []byte
	for i := range len(s) {
		if i%8 == 0 {
			b = append(b, 0)
		}
		if s[i] == '1' {
			b[i/8] += []byte{1, 2, 4, 8, 16, 32, 64, 128}[i%8]
		}
	}
	return b
}

func compareMap(t *testing.T, m *bits.Map, want string) {
	t.Helper()
	if got := written(m); got != want || m.Len() != len(want) {
		t.Errorf("the map is %.80s, %d, want %.80s, %d", got, m.Len(), want, len(want))
	}
	if got := m.Bytes(); !bytes.Equal(got, wantBytes(want)) {
		t.Errorf("the bytes of %.80s are %.20d, want %.20d", want, got, wantBytes(want))
	}
}

// numbers returns a function that returns numbers below n, the same ones in each run.
func numbers(seed uint64) func(n int) int {
	return func(n int) int {
		seed = seed*6364136223846793005 + 1442695040888963407
		return int(seed>>33) % n
	}
}

// small returns all maps with at most most bits.
func small(most int) []string {
	all := []string{""}
	for i := 0; len(all[i]) < most; i++ {
		all = append(all, all[i]+"0", all[i]+"1")
	}
	return all
}

// random returns a map with n bits, of which about one of rare is other than the bit before it.
func random(next func(int) int, n, rare int) string {
	b := make([]byte, n)
	c := byte('0' + next(2))
	for i := range b {
		if next(rare) == 0 {
			c ^= 1
		}
		b[i] = c
	}
	return string(b)
}

// large returns maps of many sizes, up to the limit.
func large() []string {
	next := numbers(2)
	var all []string
	for _, n := range []int{15, 16, 17, 63, 64, 65, 127, 128, 129, 700, 4088, 4095, 4096} {
		all = append(all, strings.Repeat("0", n), strings.Repeat("1", n))
		for _, rare := range []int{2, 5, 40} {
			all = append(all, random(next, n, rare))
		}
		i := next(n)
		all = append(all, strings.Repeat("0", i)+"1"+strings.Repeat("0", n-i-1), strings.Repeat("1", n-1)+"0")
	}
	return all
}

// arguments returns numbers around the edges of a map with n bits, and far from it.
func arguments(n int) []int {
	all := []int{math.MinInt, math.MinInt + 1, math.MinInt32, -4096, -64, -8, -2, -1}
	for i := range min(n, 10) {
		all = append(all, i)
	}
	for _, i := range []int{62, 63, 64, 65, 127, 128, n/2 - 1, n / 2, n - 66, n - 65, n - 64, n - 63, n - 3, n - 2, n - 1} {
		if i >= 10 && i < n {
			all = append(all, i)
		}
	}
	all = append(all, n, n+1, n+2, 4096, 4097, math.MaxInt32, 1<<32, math.MaxInt-n, math.MaxInt-1, math.MaxInt)
	return all
}

// TestNew is for P2.1.
func TestNew(t *testing.T) {
	for n := -70; n <= 4300; n++ {
		m, e := bits.New(n)
		if n >= 0 && n <= 4096 {
			if e != api.OK || m == nil || m.Len() != n || !bytes.Equal(m.Bytes(), make([]byte, (n+7)/8)) {
				t.Errorf("New(%d): %d bits, %d", n, m.Len(), e)
			}
			continue
		}
		if m != nil || e != api.ErrRange {
			t.Errorf("New(%d): %v, %d", n, m, e)
		}
	}
	for _, n := range []int{math.MinInt, math.MinInt32, math.MaxInt32, 1 << 32, 1<<32 + 8, math.MaxInt - 7, math.MaxInt - 6, math.MaxInt} {
		if m, e := bits.New(n); m != nil || e != api.ErrRange {
			t.Errorf("New(%d): %v, %d", n, m, e)
		}
		if m, e := bits.Load(n, make([]byte, 1)); m != nil || e != api.ErrRange {
			t.Errorf("Load(%d): %v, %d", n, m, e)
		}
	}
	for _, n := range []int{0, 1, 64, 4096} {
		m, _ := bits.New(n)
		compareMap(t, m, strings.Repeat("0", n))
	}
}

func compareLoad(t *testing.T, n int, b []byte, want string, wantE api.Errno) {
	t.Helper()
	kept := bytes.Clone(b)
	m, e := bits.Load(n, b)
	if e != wantE {
		t.Errorf("Load(%d, %.20d): %d, want %d", n, b, e, wantE)
	}
	if wantE != api.OK {
		if m != nil {
			t.Errorf("Load(%d, %.20d): a map with an error", n, b)
		}
		return
	}
	if !bytes.Equal(b, kept) {
		t.Errorf("Load(%d) has changed its argument", n)
	}
	compareMap(t, m, want)
	for i := range b {
		b[i] ^= 255
	}
	compareMap(t, m, want)
	copy(b, kept)
}

// TestLoad is for P2.1 and P2.8: Load of Bytes is the map, and no other bytes are.
func TestLoad(t *testing.T) {
	for _, s := range append(small(9), large()...) {
		n := len(s)
		b := build(t, s).Bytes()
		compareLoad(t, n, b, s, api.OK)
		compareLoad(t, n, append(bytes.Clone(b), 0), "", api.ErrForm)
		compareLoad(t, n, append(bytes.Clone(b), 1), "", api.ErrForm)
		if n > 0 {
			compareLoad(t, n, b[:len(b)-1], "", api.ErrForm)
			compareLoad(t, n, b[1:], "", api.ErrForm)
			compareLoad(t, n, nil, "", api.ErrForm)
		}
		for i := n; i%8 != 0; i++ {
			other := bytes.Clone(b)
			other[i/8] |= 1 << (i % 8)
			compareLoad(t, n, other, "", api.ErrForm)
		}
	}
	compareLoad(t, 0, nil, "", api.OK)
	compareLoad(t, 0, []byte{}, "", api.OK)
	compareLoad(t, 10, []byte{230, 4}, "", api.ErrForm)
	compareLoad(t, 10, []byte{230}, "", api.ErrForm)
	compareLoad(t, 10, []byte{230, 0}, "0110011100", api.OK)
	for _, b := range [][]byte{nil, {}, {0}, {255}, make([]byte, 512), make([]byte, 513)} {
		compareLoad(t, -1, b, "", api.ErrRange)
		compareLoad(t, 4097, b, "", api.ErrRange)
	}
}

// TestLoadAll is for P2.1: all pairs of bytes.
func TestLoadAll(t *testing.T) {
	for n := range 18 {
		for i := range 1 << 16 {
			b := []byte{byte(i), byte(i >> 8)}
			m, e := bits.Load(n, b)
			if valid := n > 8 && n <= 16 && i>>n == 0; valid != (e == api.OK) || !valid && (e != api.ErrForm || m != nil) {
				t.Fatalf("Load(%d, %d): %d", n, b, e)
			}
			if e == api.OK && !bytes.Equal(m.Bytes(), b) {
				t.Fatalf("Bytes of Load(%d, %d): %d", n, b, m.Bytes())
			}
		}
	}
}

// TestBytesNew is for R3 in P2.8: what Bytes returns is new memory.
func TestBytesNew(t *testing.T) {
	for _, s := range []string{"1", "0110011100", strings.Repeat("01", 2048)} {
		m := build(t, s)
		a, b := m.Bytes(), m.Bytes()
		for i := range a {
			a[i] ^= 255
		}
		if !bytes.Equal(b, wantBytes(s)) {
			t.Errorf("two results of Bytes share memory")
		}
		compareMap(t, m, s)
		m.Fill(0, len(s), true)
		if !bytes.Equal(b, wantBytes(s)) {
			t.Errorf("Bytes has changed with the map")
		}
	}
}

// compareBit tells Get, Set and Turn of the bit i of the map s.
func compareBit(t *testing.T, m *bits.Map, s string, i int) {
	t.Helper()
	wantE, want := api.ErrRange, ""
	with := func(string) string { return s }
	if i >= 0 && i < len(s) {
		wantE, want = api.OK, s[i:i+1]
		with = func(d string) string { return s[:i] + d + s[i+1:] }
	}
	if v, e := m.Get(i); e != wantE || v != (want == "1") {
		t.Errorf("Get(%d) of %.80s: %t, %d, want %s, %d", i, s, v, e, want, wantE)
	}
	for _, v := range []bool{true, false, false, true, true, want == "1"} {
		if e := m.Set(i, v); e != wantE {
			t.Errorf("Set(%d, %t) of %.80s: %d, want %d", i, v, s, e, wantE)
		}
		compareMap(t, m, with(digit(v)))
	}
	for _, v := range []bool{want != "1", want == "1"} {
		if e := m.Turn(i); e != wantE {
			t.Errorf("Turn(%d) of %.80s: %d, want %d", i, s, e, wantE)
		}
		compareMap(t, m, with(digit(v)))
	}
}

// TestBits is for Get, Set and Turn in P2.2: all maps with few bits, and the edges of large ones.
func TestBits(t *testing.T) {
	for _, s := range small(5) {
		m := build(t, s)
		for i := -3; i < len(s)+70; i++ {
			compareBit(t, m, s, i)
		}
	}
	for _, s := range large() {
		m := build(t, s)
		for _, i := range arguments(len(s)) {
			compareBit(t, m, s, i)
		}
	}
}

// inside reports whether the range from, n is in the map s, by numbers that do not overflow.
func inside(s string, from, n int) bool {
	return from >= 0 && n >= 0 && from <= len(s) && n <= len(s) && from+n <= len(s)
}

// compareRange tells Count and Fill of a range of the map s.
func compareRange(t *testing.T, s string, from, n int) {
	t.Helper()
	m := build(t, s)
	wantE, want := api.ErrRange, 0
	if inside(s, from, n) {
		wantE, want = api.OK, strings.Count(s[from:from+n], "1")
	}
	if got, e := m.Count(from, n); got != want || e != wantE {
		t.Errorf("Count(%d, %d) of %.80s: %d, %d, want %d, %d", from, n, s, got, e, want, wantE)
	}
	compareMap(t, m, s)
	for _, v := range []bool{true, false} {
		m := build(t, s)
		if e := m.Fill(from, n, v); e != wantE {
			t.Errorf("Fill(%d, %d, %t) of %.80s: %d, want %d", from, n, v, s, e, wantE)
		}
		filled := s
		if wantE == api.OK {
			filled = s[:from] + strings.Repeat(digit(v), n) + s[from+n:]
		}
		compareMap(t, m, filled)
	}
}

// TestRanges is for Fill and Count in P2.2: all ranges of all maps with few bits.
func TestRanges(t *testing.T) {
	for _, s := range small(7) {
		for from := -2; from <= len(s)+2; from++ {
			for n := -2; n <= len(s)+2; n++ {
				compareRange(t, s, from, n)
			}
		}
	}
}

// TestRangesLarge is for Fill and Count in P2.2: the edges of large maps, and sums that overflow.
func TestRangesLarge(t *testing.T) {
	next := numbers(3)
	for _, size := range []int{0, 1, 8, 63, 64, 65, 128, 130, 4095, 4096} {
		s := random(next, size, 3)
		some := arguments(size)
		for range 150 {
			compareRange(t, s, some[next(len(some))], some[next(len(some))])
		}
		for _, i := range some {
			compareRange(t, s, i, size-i)
			compareRange(t, s, i, size-i+1)
			compareRange(t, s, 0, i)
			compareRange(t, s, 1, i)
			compareRange(t, s, i, 0)
			compareRange(t, s, i, 1)
		}
	}
}

// TestChanges is for P2.2: many changes of one map.
func TestChanges(t *testing.T) {
	next := numbers(4)
	const size = 300
	m := build(t, strings.Repeat("0", size))
	s := []byte(strings.Repeat("0", size))
	for range 3000 {
		i, v := next(size), next(2) == 1
		n := next(size - i + 1)
		switch next(3) {
		case 0:
			m.Set(i, v)
			s[i] = digit(v)[0]
		case 1:
			m.Turn(i)
			s[i] ^= 1
		case 2:
			m.Fill(i, n, v)
			copy(s[i:], strings.Repeat(digit(v), n))
		}
		compareMap(t, m, string(s))
	}
}

// TestExample is for the chapter's examples.
func TestExample(t *testing.T) {
	m := build(t, "0110011100")
	compareRange(t, "0110011100", 0, 10)
	for i, x := range []struct {
		got  func() (int, api.Errno)
		want int
		e    api.Errno
	}{
		{func() (int, api.Errno) { return m.Count(0, 10) }, 5, api.OK},
		{func() (int, api.Errno) { return m.Count(2, 4) }, 2, api.OK},
		{func() (int, api.Errno) { return m.Count(5, 6) }, 0, api.ErrRange},
		{func() (int, api.Errno) { return m.Next(3, true) }, 5, api.OK},
		{func() (int, api.Errno) { return m.Next(8, true) }, 0, api.ErrNone},
		{func() (int, api.Errno) { return m.Last(5, true) }, 2, api.OK},
		{func() (int, api.Errno) { return m.Last(1, true) }, 0, api.ErrNone},
		{func() (int, api.Errno) { return m.Run(0, 3, true) }, 5, api.OK},
		{func() (int, api.Errno) { return m.Run(0, 2, false) }, 3, api.OK},
		{func() (int, api.Errno) { return m.Run(0, 4, true) }, 0, api.ErrNone},
	} {
		if got, e := x.got(); got != x.want || e != x.e {
			t.Errorf("%d: %d, %d, want %d, %d", i, got, e, x.want, x.e)
		}
	}
	if b := m.Bytes(); !bytes.Equal(b, []byte{230, 0}) {
		t.Errorf("Bytes: %d", b)
	}
	if e := m.Turn(0); e != api.OK {
		t.Errorf("Turn: %d", e)
	}
	if e := m.Fill(0, 3, false); e != api.OK {
		t.Errorf("Fill: %d", e)
	}
	if b := m.Bytes(); !bytes.Equal(b, []byte{224, 0}) {
		t.Errorf("Bytes: %d", b)
	}
}

// TestUnmade is for maps that are nil or that the package has not returned.
func TestUnmade(t *testing.T) {
	real := build(t, "101")
	taken := *real
	for _, m := range []*bits.Map{nil, {}, new(bits.Map), &taken} {
		for _, i := range []int{math.MinInt, -1, 0, 1, 4096, math.MaxInt} {
			if v, e := m.Get(i); v || e != api.ErrNil {
				t.Errorf("Get(%d): %t, %d", i, v, e)
			}
			for _, e := range []api.Errno{m.Set(i, true), m.Set(i, false), m.Turn(i), m.Fill(i, 0, true), m.Fill(0, i, false)} {
				if e != api.ErrNil {
					t.Errorf("Set, Turn or Fill of %d: %d", i, e)
				}
			}
			for k, f := range []func() (int, api.Errno){
				func() (int, api.Errno) { return m.Count(i, 0) },
				func() (int, api.Errno) { return m.Count(0, i) },
				func() (int, api.Errno) { return m.Next(i, false) },
				func() (int, api.Errno) { return m.Last(i, false) },
				func() (int, api.Errno) { return m.Run(i, 1, false) },
				func() (int, api.Errno) { return m.Run(0, i, false) },
			} {
				if n, e := f(); n != 0 || e != api.ErrNil {
					t.Errorf("%d of %d: %d, %d", k, i, n, e)
				}
			}
		}
		if m.Len() != 0 || len(m.Bytes()) != 0 {
			t.Errorf("it has %d bits, the bytes %d", m.Len(), m.Bytes())
		}
		compareUnmade(t, m)
	}
	compareMap(t, real, "101")
}

// compareUnmade tells the methods with two maps of the unmade map m.
func compareUnmade(t *testing.T, m *bits.Map) {
	t.Helper()
	if c, e := m.Not(); c != nil || e != api.ErrNil {
		t.Errorf("Not: %v, %d", c, e)
	}
	if m.Same(m) {
		t.Errorf("it is the same as itself")
	}
	for _, o := range []*bits.Map{nil, {}, new(bits.Map), build(t, ""), build(t, "101")} {
		if m.Same(o) || o.Same(m) {
			t.Errorf("it is the same as a map with %d bits", o.Len())
		}
		for k, f := range []func(m, o *bits.Map) (*bits.Map, api.Errno){(*bits.Map).And, (*bits.Map).Or, (*bits.Map).Xor} {
			if c, e := f(m, o); c != nil || e != api.ErrNil {
				t.Errorf("%d with %d bits: %v, %d", k, o.Len(), c, e)
			}
			if c, e := f(o, m); c != nil || e != api.ErrNil {
				t.Errorf("%d of %d bits: %v, %d", k, o.Len(), c, e)
			}
		}
	}
}
