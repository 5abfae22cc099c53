package sums_test

import (
	"hash/crc32"
	"math"
	"testing"

	"limewash/api"
	"limewash/sums"
)

// full is R at first, and what it is combined with at the end.
const full = 1<<32 - 1

// wantOn goes on from the crc h with b, step by step as the document says.
func wantOn(h uint32, b []byte) uint32 {
	r := h ^ full
	for _, c := range b {
		r ^= uint32(c)
		for range 8 {
			odd := r%2 == 1
			r /= 2
			if odd {
				r ^= 3988292384
			}
		}
	}
	return r ^ full
}

// numbers returns a function that returns numbers of 32 bits, the same ones in each run.
func numbers(seed uint64) func() uint32 {
	return func() uint32 {
		seed = seed*6364136223846793005 + 1442695040888963407
		return uint32(seed >> 32)
	}
}

// random returns n bytes.
func random(next func() uint32, n int) []byte {
	b := make([]byte, n)
	for i := range b {
		b[i] = byte(next() >> 7)
	}
	return b
}

// below returns a number below n.
func below(next func() uint32, n int) int {
	return int(next()>>1) % n
}

// some are crcs, and numbers that need not be any.
func some(next func() uint32) []uint32 {
	l := []uint32{0, 1, 2, 255, 256, 65535, 1 << 30, 1 << 31, full - 1, full, 3904355907, 3421780262, 3988292384, full ^ 3988292384}
	for range 10 {
		l = append(l, next())
	}
	return l
}

// short calls f with each string of at most two bytes, and with those of three bytes from a few.
func short(f func(b []byte)) {
	f(nil)
	f([]byte{})
	few := []byte{0, 1, 2, 'a', 127, 128, 254, 255}
	for c := range 256 {
		f([]byte{byte(c)})
		for d := range 256 {
			f([]byte{byte(c), byte(d)})
		}
	}
	for _, c := range few {
		for _, d := range few {
			for _, e := range few {
				f([]byte{c, d, e})
			}
		}
	}
}

func compareCrc(t *testing.T, b []byte) {
	t.Helper()
	want := wantOn(0, b)
	if got := sums.Crc(b); got != want || got != crc32.ChecksumIEEE(b) {
		t.Fatalf("Crc(%.40q) of %d bytes: %d, want %d", b, len(b), got, want)
	}
}

// TestCrc is for P4.1.
func TestCrc(t *testing.T) {
	for s, want := range map[string]uint32{"": 0, "a": 3904355907, "123456789": 3421780262} {
		if got := sums.Crc([]byte(s)); got != want {
			t.Errorf("Crc(%q): %d, want %d", s, got, want)
		}
	}
	if got := sums.Crc(nil); got != 0 {
		t.Errorf("Crc(nil): %d", got)
	}
	short(func(b []byte) { compareCrc(t, b) })
	next := numbers(1)
	for n := range 300 {
		compareCrc(t, random(next, n))
		compareCrc(t, make([]byte, n))
	}
	compareCrc(t, random(next, 1<<20+1))
}

func compareOn(t *testing.T, h uint32, b []byte) {
	t.Helper()
	if got, want := sums.On(h, b), wantOn(h, b); got != want {
		t.Fatalf("On(%d, %.40q): %d, want %d", h, b, got, want)
	}
}

// TestOn is for P4.1.
func TestOn(t *testing.T) {
	next := numbers(2)
	for _, h := range some(next) {
		if got := sums.On(h, nil); got != h {
			t.Errorf("On(%d, nil): %d", h, got)
		}
		if got := sums.On(h, []byte{}); got != h {
			t.Errorf("On(%d) of no bytes: %d", h, got)
		}
		for c := range 256 {
			compareOn(t, h, []byte{byte(c)})
			compareOn(t, h, []byte{0, byte(c), 255})
		}
		compareOn(t, h, random(next, below(next, 500)))
	}
	if got := sums.On(3904355907, nil); got != 3904355907 {
		t.Errorf("On of the crc of a with no bytes: %d", got)
	}
	for range 200 {
		b := random(next, below(next, 60))
		for i := range len(b) + 1 {
			if got, want := sums.On(sums.Crc(b[:i]), b[i:]), sums.Crc(b); got != want {
				t.Fatalf("On(Crc(%q), %q): %d, want %d", b[:i], b[i:], got, want)
			}
		}
	}
}

// counts are numbers of bytes that both Zeros and Combine take.
func counts(next func() uint32) []int {
	l := []int{999998, 999999, 1000000}
	for n := range 70 {
		l = append(l, n)
	}
	for n := 1; n <= 1<<19; n *= 2 {
		l = append(l, n-1, n, n+1)
	}
	for range 10 {
		l = append(l, below(next, 1000001))
	}
	return l
}

// outside are numbers of bytes that neither of them takes.
var outside = []int{-1, -2, -1000000, 1000001, 1000002, 1 << 20, 1 << 32, 1<<32 + 1, math.MinInt, math.MinInt + 1, math.MaxInt}

// TestZeros is for P4.2.
func TestZeros(t *testing.T) {
	next := numbers(3)
	zeros := make([]byte, 1000000)
	for _, h := range some(next) {
		for _, n := range counts(next) {
			if n > 2000 && h > 2 && h < full-1 && n%17 != 0 && n != 1000000 {
				continue
			}
			got, e := sums.Zeros(h, n)
			if want := sums.On(h, zeros[:n]); got != want || e != api.OK {
				t.Fatalf("Zeros(%d, %d): %d, %d, want %d", h, n, got, e, want)
			}
		}
		for _, n := range outside {
			if got, e := sums.Zeros(h, n); got != 0 || e != api.ErrRange {
				t.Fatalf("Zeros(%d, %d): %d, %d", h, n, got, e)
			}
		}
	}
	for i := range 32 {
		got, e := sums.Zeros(1<<i, 1001)
		if want := wantOn(1<<i, zeros[:1001]); got != want || e != api.OK {
			t.Errorf("Zeros(%d, 1001): %d, %d, want %d", 1<<i, got, e, want)
		}
	}
}

// TestCombine is for P4.2: crcs of bytes.
func TestCombine(t *testing.T) {
	next := numbers(4)
	check := func(x, y []byte) {
		t.Helper()
		whole := append(append([]byte(nil), x...), y...)
		got, e := sums.Combine(sums.Crc(x), sums.Crc(y), len(y))
		if want := wantOn(0, whole); got != want || e != api.OK {
			t.Fatalf("Combine of %d and %d bytes: %d, %d, want %d", len(x), len(y), got, e, want)
		}
	}
	check(nil, nil)
	check([]byte("a"), nil)
	check(nil, []byte("a"))
	if got, e := sums.Combine(sums.Crc([]byte("1234")), sums.Crc([]byte("56789")), 5); got != 3421780262 || e != api.OK {
		t.Errorf("Combine of the example: %d, %d", got, e)
	}
	for range 300 {
		check(random(next, below(next, 80)), random(next, below(next, 80)))
	}
	for _, n := range counts(next) {
		check(random(next, 3), random(next, n))
	}
}

// TestCombineAny is for P4.2: any other numbers, and errors.
func TestCombineAny(t *testing.T) {
	next := numbers(5)
	for _, a := range some(next) {
		for _, b := range some(next) {
			for _, n := range []int{0, 1, 2, 5, 31, 32, 1000, below(next, 3000)} {
				z := make([]byte, n)
				got, e := sums.Combine(a, b, n)
				if want := wantOn(a, z) ^ wantOn(0, z) ^ b; got != want || e != api.OK {
					t.Fatalf("Combine(%d, %d, %d): %d, %d, want %d", a, b, n, got, e, want)
				}
			}
			for _, n := range outside {
				if got, e := sums.Combine(a, b, n); got != 0 || e != api.ErrRange {
					t.Fatalf("Combine(%d, %d, %d): %d, %d", a, b, n, got, e)
				}
			}
		}
	}
	z := make([]byte, 1000000)
	got, e := sums.Combine(77, 88, 1000000)
	if want := sums.On(77, z) ^ sums.On(0, z) ^ 88; got != want || e != api.OK {
		t.Errorf("Combine(77, 88, 1000000): %d, %d, want %d", got, e, want)
	}
}

// differ compares that bytes with a change have another crc.
func differ(t *testing.T, b, change []byte) {
	t.Helper()
	c := make([]byte, len(b))
	same := true
	for i := range b {
		c[i] = b[i] ^ change[i]
		same = same && change[i] == 0
	}
	if !same && sums.Crc(b) == sums.Crc(c) {
		t.Fatalf("%q and %q have one crc", b, c)
	}
}

// burst returns n bytes with the bits of v, the lowest one at the bit at.
func burst(n, at int, v uint32) []byte {
	b := make([]byte, n)
	for i := range 32 {
		if k := at + i; v>>i&1 == 1 && k < 8*n {
			b[k/8] |= 1 << (k % 8)
		}
	}
	return b
}

// TestBursts is for P4.6: all short bursts, and long ones at each place.
func TestBursts(t *testing.T) {
	next := numbers(6)
	b := random(next, 12)
	for at := range 8 * len(b) {
		for v := range uint32(1 << 8) {
			differ(t, b, burst(len(b), at, v))
		}
		for i := range 32 {
			for k := range 32 {
				differ(t, b, burst(len(b), at, 1<<i|1<<k))
				differ(t, b, burst(len(b), at, full>>i<<k))
			}
		}
		for range 500 {
			differ(t, b, burst(len(b), at, next()))
		}
	}
	for v := uint32(1); v < 1<<16; v++ {
		differ(t, b, burst(len(b), 30, v))
	}
	long := random(next, 4000)
	for range 2000 {
		differ(t, long, burst(len(long), below(next, 8*len(long)), next()))
	}
	// The divisor itself is a burst of 33 bits, which a crc does not see.
	nine := burst(12, 5, 1)
	for i, c := range burst(12, 6, 3988292384) {
		nine[i] ^= c
	}
	if sums.Crc(make([]byte, 12)) != sums.Crc(nine) {
		t.Errorf("the divisor changes the crc")
	}
}

// TestXor is for P4.7.
func TestXor(t *testing.T) {
	next := numbers(7)
	for n := range 600 {
		a, b, c, d := random(next, n), random(next, n), random(next, n), make([]byte, n)
		for i := range d {
			d[i] = a[i] ^ b[i] ^ c[i]
		}
		if got, want := sums.Crc(a)^sums.Crc(b)^sums.Crc(c), sums.Crc(d); got != want {
			t.Fatalf("the xor of three crcs of %d bytes: %d, want %d", n, got, want)
		}
		if got := sums.Crc(a) ^ sums.Crc(a) ^ sums.Crc(c); got != wantOn(0, c) {
			t.Fatalf("the xor of a crc, the same one and another: %d", got)
		}
	}
}
