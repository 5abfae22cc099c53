package sums_test

import (
	"bytes"
	"math"
	"math/big"
	"testing"

	"limewash/api"
	"limewash/sums"
)

// prime is SmPrime, as the document writes it.
const prime = 4294967291

// remainder is n on division by the prime, from 0 on.
func remainder(n *big.Int) uint64 {
	return new(big.Int).Mod(n, big.NewInt(prime)).Uint64()
}

// number returns a + b * c.
func number(a, b, c uint64) *big.Int {
	n := new(big.Int).Mul(new(big.Int).SetUint64(b), new(big.Int).SetUint64(c))
	return n.Add(n, new(big.Int).SetUint64(a))
}

// wantMix goes on from both halves, with numbers of any size.
func wantMix(a, b uint64, bytes []byte) uint64 {
	for _, c := range bytes {
		a = remainder(number(a, 1, uint64(c)))
		b = remainder(number(b, 1, a))
	}
	return b<<32 | a
}

// wantRoll is what Roll is to return for a mix and a valid n.
func wantRoll(a, b uint64, n int, out, in byte) uint64 {
	a = remainder(new(big.Int).Sub(number(a, 1, uint64(in)), big.NewInt(int64(out))))
	taken := number(1, uint64(n), uint64(out))
	b = remainder(new(big.Int).Sub(number(b, 1, a), taken))
	return b<<32 | a
}

// halves are numbers that may be the halves of a mix, at the edges.
var halves = []uint64{0, 1, 2, 254, 255, 256, 1 << 31, 1<<31 - 1, 255000000, prime - 255000000, prime - 256, prime - 255, prime - 254, prime - 2, prime - 1}

// tooMuch are numbers that may not.
var tooMuch = []uint64{prime, prime + 1, 1<<32 - 2, 1<<32 - 1}

// TestMix is for P4.5.
func TestMix(t *testing.T) {
	for s, want := range map[string]uint64{"": 1, "a": 420906795106, "ab": 1262720385220} {
		if got := sums.Mix([]byte(s)); got != want {
			t.Errorf("Mix(%q): %d, want %d", s, got, want)
		}
	}
	if got := sums.Mix(nil); got != 1 {
		t.Errorf("Mix(nil): %d", got)
	}
	check := func(b []byte) {
		if got, want := sums.Mix(b), wantMix(1, 0, b); got != want {
			t.Fatalf("Mix(%.40q): %d, want %d", b, got, want)
		}
	}
	short(check)
	next := numbers(21)
	for n := range 200 {
		check(random(next, n))
		check(bytes.Repeat([]byte{255}, n))
	}
	// B is more than the prime from about 5800 bytes 255 on.
	for _, n := range []int{5000, 5700, 5800, 5900, 20000} {
		check(bytes.Repeat([]byte{255}, n))
		check(random(next, n))
	}
}

// TestMixLong is for P4.5: so many bytes that A is more than the prime.
func TestMixLong(t *testing.T) {
	b := bytes.Repeat([]byte{255}, 16843010)
	// A is 1 + 255 n; B is the sum of these, n + 255 n (n + 1) / 2.
	n := uint64(len(b))
	want := remainder(number(n, 255, n*(n+1)/2))<<32 | remainder(number(1, 255, n))
	if 1+255*n <= prime {
		t.Fatalf("%d bytes are too few", n)
	}
	if got := sums.Mix(b); got != want {
		t.Errorf("Mix of %d bytes: %d, want %d", n, got, want)
	}
}

// TestMixOn is for P4.5.
func TestMixOn(t *testing.T) {
	next := numbers(22)
	for _, a := range halves {
		for _, b := range halves {
			for _, s := range [][]byte{nil, {}, {0}, {1}, {4}, {255}, {255, 0, 255}, random(next, below(next, 50))} {
				if got, e := sums.MixOn(b<<32|a, s); got != wantMix(a, b, s) || e != api.OK {
					t.Fatalf("MixOn of %d and %d with %q: %d, %d", a, b, s, got, e)
				}
			}
		}
	}
	for range 200 {
		b := random(next, below(next, 60))
		for i := range len(b) + 1 {
			if got, e := sums.MixOn(sums.Mix(b[:i]), b[i:]); got != sums.Mix(b) || e != api.OK {
				t.Fatalf("MixOn(Mix(%q), %q): %d, %d", b[:i], b[i:], got, e)
			}
		}
	}
}

// noMixes are numbers of which a half is too much.
func noMixes() []uint64 {
	l := []uint64{math.MaxUint64}
	for _, bad := range tooMuch {
		for _, good := range halves {
			l = append(l, bad<<32|good, good<<32|bad)
		}
		for _, other := range tooMuch {
			l = append(l, bad<<32|other)
		}
	}
	return l
}

// TestNoMix is for P4.5: numbers that are no mix, and which error comes first.
func TestNoMix(t *testing.T) {
	for _, h := range noMixes() {
		for _, b := range [][]byte{nil, {}, []byte("a")} {
			if got, e := sums.MixOn(h, b); got != 0 || e != api.ErrForm {
				t.Fatalf("MixOn(%d, %q): %d, %d", h, b, got, e)
			}
		}
		for _, n := range []int{1, 5, 1000000, 0, -1, 1000001, math.MinInt} {
			if got, e := sums.Roll(h, n, 1, 2); got != 0 || e != api.ErrForm {
				t.Fatalf("Roll(%d, %d): %d, %d", h, n, got, e)
			}
		}
	}
}

// TestRoll is for P4.5: any mixes.
func TestRoll(t *testing.T) {
	if got, e := sums.Roll(sums.Mix([]byte("ab")), 2, 'a', 'c'); got != sums.Mix([]byte("bc")) || e != api.OK {
		t.Errorf("Roll of ab: %d, %d", got, e)
	}
	next := numbers(23)
	for _, a := range halves {
		for _, b := range halves {
			h := b<<32 | a
			for _, n := range []int{1, 2, 3, 255, 256, 999999, 1000000, 1 + below(next, 1000000)} {
				for _, out := range []byte{0, 1, 254, 255} {
					for _, in := range []byte{0, 1, 255, byte(next())} {
						if got, e := sums.Roll(h, n, out, in); got != wantRoll(a, b, n, out, in) || e != api.OK {
							t.Fatalf("Roll of %d and %d, %d, %d, %d: %d, %d", a, b, n, out, in, got, e)
						}
					}
				}
			}
			for _, n := range []int{0, -1, -1000000, 1000001, 1 << 20, 1 << 32, 1<<32 + 1, math.MinInt, math.MaxInt} {
				if got, e := sums.Roll(h, n, 1, 2); got != 0 || e != api.ErrRange {
					t.Fatalf("Roll(%d, %d): %d, %d", h, n, got, e)
				}
			}
		}
	}
}

// TestRollBytes is for P4.8: the window moves on.
func TestRollBytes(t *testing.T) {
	next := numbers(24)
	for _, n := range []int{1, 2, 3, 10, 255, 5800, 6000} {
		b := random(next, n+200)
		h := sums.Mix(b[:n])
		for i := range 200 {
			got, e := sums.Roll(h, n, b[i], b[i+n])
			if got != sums.Mix(b[i+1:i+1+n]) || e != api.OK {
				t.Fatalf("Roll to the byte %d of windows of %d bytes: %d, %d", i+n, n, got, e)
			}
			h = got
		}
	}
	high := bytes.Repeat([]byte{255}, 1000001)
	high[1000000] = 7
	got, e := sums.Roll(sums.Mix(high[:1000000]), 1000000, 255, 7)
	if got != sums.Mix(high[1:]) || e != api.OK {
		t.Errorf("Roll of 1000000 bytes: %d, %d", got, e)
	}
}

// TestMixDiffers is for P4.8: a single byte that differs changes the mix.
func TestMixDiffers(t *testing.T) {
	next := numbers(25)
	for _, n := range []int{1, 2, 3, 17, 100} {
		for _, b := range [][]byte{make([]byte, n), bytes.Repeat([]byte{255}, n), random(next, n)} {
			for i := range b {
				seen := map[uint64]int{}
				c := bytes.Clone(b)
				for v := range 256 {
					c[i] = byte(v)
					seen[sums.Mix(c)]++
				}
				if len(seen) != 256 {
					t.Fatalf("%d mixes for the byte %d of %d", len(seen), i, n)
				}
			}
		}
	}
}
