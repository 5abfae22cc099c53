package sums_test

import (
	"bytes"
	"math"
	"testing"

	"limewash/api"
	"limewash/sums"
)

// comparePatch compares what Patch returns with the bytes that it is to change, and changes it back: there is exactly one way.
func comparePatch(t *testing.T, b []byte, at int, want uint32) {
	t.Helper()
	kept := bytes.Clone(b)
	p, e := sums.Patch(b, at, want)
	if !bytes.Equal(b, kept) {
		t.Fatalf("Patch(%q, %d) has changed its argument", kept, at)
	}
	if at < 0 || at > len(b)-4 {
		if len(p) > 0 || e != api.ErrRange {
			t.Fatalf("Patch of %d bytes at %d: %q, %d", len(b), at, p, e)
		}
		return
	}
	if e != api.OK || len(p) != len(b) || wantOn(0, p) != want {
		t.Fatalf("Patch(%q, %d, %d): %q, %d", b, at, want, p, e)
	}
	if !bytes.Equal(p[:at], b[:at]) || !bytes.Equal(p[at+4:], b[at+4:]) {
		t.Fatalf("Patch(%q, %d, %d) changes other bytes: %q", b, at, want, p)
	}
	back, e := sums.Patch(p, at, wantOn(0, b))
	if e != api.OK || !bytes.Equal(back, b) {
		t.Fatalf("Patch(%q, %d) back: %q, %d, want %q", p, at, back, e, b)
	}
}

// TestPatch is for P4.3.
func TestPatch(t *testing.T) {
	next := numbers(11)
	for n := range 20 {
		b := random(next, n)
		for at := -3; at < n+3; at++ {
			for _, want := range some(next) {
				comparePatch(t, b, at, want)
			}
			comparePatch(t, b, at, sums.Crc(b))
		}
		for _, at := range []int{math.MinInt, math.MinInt + 1, math.MinInt + 4, math.MaxInt - 4, math.MaxInt - 3, math.MaxInt, 1 << 32} {
			comparePatch(t, b, at, next())
		}
	}
	comparePatch(t, nil, 0, 0)
	comparePatch(t, nil, -4, 0)
	comparePatch(t, nil, 4, 0)
	long := random(next, 5000)
	for _, at := range []int{0, 1, 2500, 4995, 4996, 4997, 5000} {
		comparePatch(t, long, at, next())
	}
	p, e := sums.Patch([]byte("1234????9"), 4, 3421780262)
	if string(p) != "123456789" || e != api.OK {
		t.Errorf("Patch to the crc of 123456789: %q, %d", p, e)
	}
}

// wantLocate is what Locate is to return for a short string, by trying all values of all bytes.
func wantLocate(b []byte, want uint32) (int, byte, api.Errno) {
	if wantOn(0, b) == want {
		return 0, 0, api.ErrTwice
	}
	for i := range b {
		for v := range 256 {
			c := bytes.Clone(b)
			c[i] = byte(v)
			if wantOn(0, c) == want {
				return i, byte(v), api.OK
			}
		}
	}
	return 0, 0, api.ErrNone
}

func compareLocate(t *testing.T, b []byte, want uint32, wantAt int, wantValue byte, wantE api.Errno) {
	t.Helper()
	kept := bytes.Clone(b)
	if at, value, e := sums.Locate(b, want); at != wantAt || value != wantValue || e != wantE {
		t.Fatalf("Locate(%.40q, %d): %d, %d, %d, want %d, %d, %d", b, want, at, value, e, wantAt, wantValue, wantE)
	}
	if !bytes.Equal(b, kept) {
		t.Fatalf("Locate has changed its argument")
	}
}

// TestLocate is for P4.4: the examples, and all values of all bytes.
func TestLocate(t *testing.T) {
	compareLocate(t, []byte("b"), 3904355907, 0, 'a', api.OK)
	compareLocate(t, []byte("a"), 3904355907, 0, 0, api.ErrTwice)
	compareLocate(t, nil, 1, 0, 0, api.ErrNone)
	compareLocate(t, nil, 0, 0, 0, api.ErrTwice)
	compareLocate(t, []byte{}, 0, 0, 0, api.ErrTwice)
	compareLocate(t, []byte("ab"), 3904355907, 0, 0, api.ErrNone)
	next := numbers(12)
	for n := range 12 {
		for _, b := range [][]byte{make([]byte, n), bytes.Repeat([]byte{255}, n), random(next, n)} {
			compareLocate(t, b, sums.Crc(b), 0, 0, api.ErrTwice)
			for i := range b {
				for v := range 256 {
					c := bytes.Clone(b)
					c[i] = byte(v)
					at, value, e := i, byte(v), api.OK
					if c[i] == b[i] {
						at, value, e = 0, 0, api.ErrTwice
					}
					compareLocate(t, b, sums.Crc(c), at, value, e)
				}
			}
		}
	}
}

// TestLocateNone is for P4.4: crcs to which no change leads.
func TestLocateNone(t *testing.T) {
	next := numbers(13)
	for n := range 6 {
		b := random(next, n)
		for _, want := range some(next) {
			at, value, e := wantLocate(b, want)
			compareLocate(t, b, want, at, value, e)
		}
		for range 40 {
			// Two bytes that differ, and crcs near the one of b.
			c := random(next, n)
			at, value, e := wantLocate(b, sums.Crc(c))
			compareLocate(t, b, sums.Crc(c), at, value, e)
			near := sums.Crc(b) ^ 1<<below(next, 32)
			at, value, e = wantLocate(b, near)
			compareLocate(t, b, near, at, value, e)
		}
	}
}

// TestLocateLong is for P4.4: the limit, and which error comes first.
func TestLocateLong(t *testing.T) {
	next := numbers(14)
	b := random(next, 1000)
	compareLocate(t, b, sums.Crc(b), 0, 0, api.ErrTwice)
	compareLocate(t, b, sums.Crc(b[:999]), 0, 0, api.ErrNone)
	for i := range b {
		c := bytes.Clone(b)
		c[i] ^= byte(1 + below(next, 255))
		compareLocate(t, b, sums.Crc(c), i, c[i], api.OK)
	}
	for _, n := range []int{1001, 1002, 5000} {
		b := random(next, n)
		c := bytes.Clone(b)
		c[0]++
		compareLocate(t, b, sums.Crc(b), 0, 0, api.ErrLong)
		compareLocate(t, b, sums.Crc(c), 0, 0, api.ErrLong)
		compareLocate(t, b, next(), 0, 0, api.ErrLong)
	}
}

// change is a byte at an index that is changed by a xor, and what that changes in the crc.
type change struct {
	at  int
	xor byte
	crc uint32
}

// changes returns all changes of a byte among n.
func changes(n int) []change {
	var l []change
	for xor := 1; xor < 256; xor++ {
		one, none := wantOn(0, []byte{byte(xor)}), wantOn(0, []byte{0})
		for at := n - 1; at >= 0; at-- {
			l = append(l, change{at, byte(xor), one ^ none})
			one, none = wantOn(one, []byte{0}), wantOn(none, []byte{0})
		}
	}
	return l
}

// TestLocateTwo is for P4.4: two changes at once lead to the crc of no single one, or of another one, which is found.
func TestLocateTwo(t *testing.T) {
	l := changes(1000)
	by := map[uint32]change{}
	for _, c := range l {
		by[c.crc] = c
	}
	// No two changes do the same, so that the least index is the only one.
	if len(by) != len(l) {
		t.Fatalf("%d changes do %d different things", len(l), len(by))
	}
	next := numbers(15)
	b := random(next, 1000)
	crc := sums.Crc(b)
	found, missed := 0, 0
	for range 1000000 {
		first, second := l[below(next, len(l))], l[below(next, len(l))]
		both, ok := by[first.crc^second.crc]
		if ok && both.at != first.at {
			compareLocate(t, b, crc^both.crc, both.at, b[both.at]^both.xor, api.OK)
			found++
		} else if !ok && missed < 300 {
			compareLocate(t, b, crc^first.crc^second.crc, 0, 0, api.ErrNone)
			missed++
		}
	}
	if found == 0 || missed == 0 {
		t.Errorf("%d found, %d missed", found, missed)
	}
}

// TestFresh is for P4.9: arguments are not modified, and what Patch returns is new memory.
func TestFresh(t *testing.T) {
	whole := []byte("0123456789abcdef")
	b := whole[2:10]
	p, _ := sums.Patch(b, 2, 1)
	q, _ := sums.Patch(b, 2, 1)
	want := bytes.Clone(q)
	p = p[:cap(p)]
	for i := range p {
		p[i] = '!'
	}
	if !bytes.Equal(q, want) || string(whole) != "0123456789abcdef" {
		t.Errorf("results of Patch share memory: %q, %q", q, whole)
	}
	sums.Crc(b)
	sums.On(1, b)
	sums.Mix(b)
	sums.MixOn(1, b)
	sums.Locate(b, 1)
	if string(whole) != "0123456789abcdef" {
		t.Errorf("an argument is modified: %q", whole)
	}
}
