package words_test

import (
	"math"
	"math/big"
	"strconv"
	"strings"
	"testing"

	"limewash/api"
	"limewash/words"
)

// enumerate calls f with each string of at most most bytes of an alphabet.
func enumerate(alphabet string, most int, f func(string)) {
	var grow func(s string)
	grow = func(s string) {
		f(s)
		if len(s) == most {
			return
		}
		for i := range len(alphabet) {
			grow(s + alphabet[i:i+1])
		}
	}
	grow("")
}

// numbers returns a function that returns numbers below n, the same ones in each run.
func numbers(seed uint64) func(n int) int {
	return func(n int) int {
		seed = seed*6364136223846793005 + 1442695040888963407
		return int(seed>>33) % n
	}
}

// TestName is for P1.1.
func TestName(t *testing.T) {
	first := "abcdefghijklmnopqrstuvwxyz"
	later := first + "0123456789-"
	for c := range 256 {
		b := string([]byte{byte(c)})
		if got, want := words.Name(b), strings.Contains(first, b); got != want {
			t.Errorf("Name(%q): %t", b, got)
		}
		for _, s := range []string{"a" + b, "a" + b + "z", "abcdefghijklmno" + b} {
			if got, want := words.Name(s), strings.Contains(later, b); got != want {
				t.Errorf("Name(%q): %t", s, got)
			}
		}
	}
	for n := range 40 {
		if got, want := words.Name(strings.Repeat("q", n)), n >= 1 && n <= 16; got != want {
			t.Errorf("Name of %d letters: %t", n, got)
		}
	}
	for s, want := range map[string]bool{"web-1": true, "a--": true, "z9": true, "Web": false, "-web": false, "1web": false, "we b": false, "web\n": false, "w\x00": false, "wéb": false} {
		if got := words.Name(s); got != want {
			t.Errorf("Name(%q): %t", s, got)
		}
	}
}

// wantInt is what Int is to return, by numbers of any size.
func wantInt(s string, low, high int64) (int64, api.Errno) {
	n, ok := new(big.Int).SetString(s, 10)
	if !ok || n.String() != s {
		return 0, api.ErrForm
	}
	if n.Cmp(big.NewInt(low)) < 0 || n.Cmp(big.NewInt(high)) > 0 {
		return 0, api.ErrRange
	}
	return n.Int64(), api.OK
}

func compareInt(t *testing.T, s string, low, high int64) {
	t.Helper()
	n, e := words.Int(s, low, high)
	wantN, wantE := wantInt(s, low, high)
	if n != wantN || e != wantE {
		t.Errorf("Int(%.40q, %d, %d): %d, %d, want %d, %d", s, low, high, n, e, wantN, wantE)
	}
}

// TestInt is for P1.1.
func TestInt(t *testing.T) {
	enumerate("019-+ _x", 4, func(s string) {
		compareInt(t, s, -100, 1000)
		compareInt(t, s, 10, 5)
	})
	ends := []int64{math.MinInt64, math.MinInt64 + 1, -10, -1, 0, 1, 9, math.MaxInt64 - 1, math.MaxInt64}
	for _, low := range ends {
		for _, high := range ends {
			for _, n := range ends {
				compareInt(t, strconv.FormatInt(n, 10), low, high)
			}
		}
	}
	for _, s := range []string{"9223372036854775808", "-9223372036854775809", "18446744073709551616", "18446744073709551617", "-18446744073709551616", strings.Repeat("7", 3000), "-" + strings.Repeat("7", 3000), strings.Repeat("0", 3000), strings.Repeat("7", 3000) + "x", "0x10", "1e3", "1.0", "٣", "1\n", "\x001", "1\x00"} {
		compareInt(t, s, math.MinInt64, math.MaxInt64)
		compareInt(t, s, 0, 10)
	}
	for i, x := range []struct {
		s         string
		low, high int64
		n         int64
		e         api.Errno
	}{{"007", 0, 10, 0, api.ErrForm}, {"-0", 0, 10, 0, api.ErrForm}, {"12", 0, 10, 0, api.ErrRange}, {"10", 0, 10, 10, api.OK}, {"11", 0, 10, 0, api.ErrRange}, {"-1", 0, 10, 0, api.ErrRange}, {"012", 0, 10, 0, api.ErrForm}, {"5", 6, 4, 0, api.ErrRange}, {"", 6, 4, 0, api.ErrForm}} {
		if n, e := words.Int(x.s, x.low, x.high); n != x.n || e != x.e {
			t.Errorf("%d: Int: %d, %d", i, n, e)
		}
	}
}

// TestDigits is for P1.1, and for Int and Digits in P1.7.
func TestDigits(t *testing.T) {
	for n, want := range map[int64]string{0: "0", 7: "7", -7: "-7", 10: "10", -10: "-10", 1000000000: "1000000000", math.MaxInt64: "9223372036854775807", math.MinInt64: "-9223372036854775808"} {
		if got := words.Digits(n); got != want {
			t.Errorf("Digits(%d): %s", n, got)
		}
	}
	next := numbers(1)
	for range 2000 {
		n := int64(next(1<<31))<<next(33) - int64(next(1<<31))<<next(33)
		s := words.Digits(n)
		if want := big.NewInt(n).String(); s != want {
			t.Errorf("Digits(%d): %s", n, s)
		}
		if back, e := words.Int(s, n, n); back != n || e != api.OK {
			t.Errorf("Int of Digits(%d): %d, %d", n, back, e)
		}
	}
	enumerate("-0159", 5, func(s string) {
		if n, e := words.Int(s, math.MinInt64, math.MaxInt64); e == api.OK && words.Digits(n) != s {
			t.Errorf("Digits of Int(%q): %s", s, words.Digits(n))
		}
	})
}
