package records_test

import (
	"bytes"
	"hash/crc32"
	"slices"
	"testing"

	"limewash/api"
	"limewash/records"
)

// wantSeal is b with its crc.
func wantSeal(b []byte) []byte {
	return slices.Concat(b, digits(uint64(crc32.ChecksumIEEE(b)), 256, 4))
}

// compareOpen tries Open, of bytes that may be sealed.
func compareOpen(t *testing.T, b []byte) {
	t.Helper()
	var want []byte
	wantE := api.ErrMore
	if n := len(b) - 4; n >= 0 {
		want, wantE = b[:n], api.OK
		if !bytes.Equal(b, wantSeal(want)) {
			want, wantE = nil, api.ErrForm
		}
	}
	if got, e := records.Open(b); e != wantE || !bytes.Equal(got, want) {
		t.Fatalf("Open(%.100v): %.100v %d, want %.100v %d", b, got, e, want, wantE)
	}
}

// TestSeal is for P5.4 and P5.8.
func TestSeal(t *testing.T) {
	for s, want := range map[string]string{"": "\x00\x00\x00\x00", "a": "a\x43\xbe\xb7\xe8", "123456789": "123456789\x26\x39\xf4\xcb"} {
		if got := records.Seal([]byte(s)); string(got) != want {
			t.Errorf("Seal(%q): %q, want %q", s, got, want)
		}
	}
	compare := func(b []byte) {
		t.Helper()
		sealed := records.Seal(b)
		if !bytes.Equal(sealed, wantSeal(b)) {
			t.Fatalf("Seal(%.100v): %.100v", b, sealed)
		}
		if back, e := records.Open(sealed); e != api.OK || !bytes.Equal(back, b) {
			t.Fatalf("Open of Seal(%.100v): %.100v %d", b, back, e)
		}
	}
	strings4(compare)
	next := numbers(4)
	for n := range 200 {
		compare(random(next, n))
		compare(make([]byte, n))
	}
	compare(random(next, 100000))
}

// TestOpen is for P5.4.
func TestOpen(t *testing.T) {
	strings4(func(b []byte) {
		compareOpen(t, b)
		compareOpen(t, slices.Concat(b, []byte{0, 0, 0, 0}))
		sealed := wantSeal(b)
		compareOpen(t, sealed)
		for _, n := range []int{1, 2, 3} {
			compareOpen(t, sealed[n:])
			compareOpen(t, sealed[:len(sealed)-n])
		}
		slices.Reverse(sealed[len(b):])
		compareOpen(t, sealed)
	})
}

// TestChanged is for P5.8: sealed bytes in which one to four bytes in a row are changed.
func TestChanged(t *testing.T) {
	next := numbers(5)
	for n := range 30 {
		sealed := records.Seal(random(next, n))
		for at := range sealed {
			for c := 1; c < 256; c++ {
				sealed[at] ^= byte(c)
				if got, e := records.Open(sealed); e != api.ErrForm || len(got) > 0 {
					t.Fatalf("a byte %d of %d is changed: %v %d", at, len(sealed), got, e)
				}
				sealed[at] ^= byte(c)
			}
			for range 300 {
				changed := slices.Clone(sealed)
				copy(changed[at:], random(next, 1+below(next, 4)))
				if bytes.Equal(changed, sealed) {
					continue
				}
				if got, e := records.Open(changed); e != api.ErrForm || len(got) > 0 {
					t.Fatalf("%v, changed to %v: %v %d", sealed, changed, got, e)
				}
			}
		}
	}
}

// wantPad is b, a byte 1, and bytes 0.
func wantPad(b []byte, n int) ([]byte, api.Errno) {
	switch {
	case n < 1 || n > 4000:
		return nil, api.ErrRange
	case len(b) >= n:
		return nil, api.ErrLong
	}
	return slices.Concat(b, []byte{1}, make([]byte, n-1-len(b))), api.OK
}

// comparePad tries Pad, and Unpad of it.
func comparePad(t *testing.T, b []byte, n int) {
	t.Helper()
	want, wantE := wantPad(b, n)
	got, e := records.Pad(b, n)
	if e != wantE || !bytes.Equal(got, want) {
		t.Fatalf("Pad(%.100v, %d): %.100v %d, want %.100v %d", b, n, got, e, want, wantE)
	}
	if e == api.OK {
		if back, e := records.Unpad(got); e != api.OK || !bytes.Equal(back, b) {
			t.Fatalf("Unpad of Pad(%.100v, %d): %.100v %d", b, n, back, e)
		}
	}
}

// TestPad is for P5.5 and P5.8.
func TestPad(t *testing.T) {
	if got, e := records.Pad([]byte{5}, 3); e != api.OK || !bytes.Equal(got, []byte{5, 1, 0}) {
		t.Errorf("Pad of 5 to 3: %v %d", got, e)
	}
	strings4(func(b []byte) {
		for n := -1; n < 7; n++ {
			comparePad(t, b, n)
		}
	})
	next := numbers(6)
	for _, size := range []int{0, 1, 2, 100, 3998, 3999, 4000, 4001, 5000} {
		for _, n := range []int{-1 << 63, -4000, -1, 0, 1, 2, 100, 101, 3999, 4000, 4001, 5001, 1<<63 - 1} {
			comparePad(t, random(next, size), n)
			comparePad(t, make([]byte, size), n)
			comparePad(t, bytes.Repeat([]byte{1}, size), n)
		}
	}
}

// compareUnpad tries Unpad: it is the bytes before a 1 that only bytes 0 follow.
func compareUnpad(t *testing.T, b []byte) {
	t.Helper()
	var want []byte
	wantE := api.ErrForm
	if rest := bytes.TrimRight(b, "\x00"); bytes.HasSuffix(rest, []byte{1}) {
		want, wantE = rest[:len(rest)-1], api.OK
	}
	if got, e := records.Unpad(b); e != wantE || !bytes.Equal(got, want) {
		t.Fatalf("Unpad(%.100v): %.100v %d, want %.100v %d", b, got, e, want, wantE)
	}
}

// TestUnpad is for P5.5.
func TestUnpad(t *testing.T) {
	for _, c := range []struct {
		b, want []byte
		e       api.Errno
	}{
		{[]byte{5, 1, 0}, []byte{5}, api.OK},
		{[]byte{5, 0}, nil, api.ErrForm},
		{[]byte{1, 1}, []byte{1}, api.OK},
		{[]byte{1}, nil, api.OK},
		{[]byte{1, 2, 0, 0}, nil, api.ErrForm},
		{[]byte{0, 0}, nil, api.ErrForm},
		{nil, nil, api.ErrForm},
	} {
		if got, e := records.Unpad(c.b); e != c.e || !bytes.Equal(got, c.want) {
			t.Errorf("Unpad(%v): %v %d, want %v %d", c.b, got, e, c.want, c.e)
		}
	}
	strings4(func(b []byte) {
		compareUnpad(t, b)
		compareUnpad(t, slices.Concat(b, make([]byte, 20)))
	})
	// Unpad has no limit of its own.
	compareUnpad(t, slices.Concat(make([]byte, 5000), []byte{1}, make([]byte, 5000)))
	compareUnpad(t, make([]byte, 10000))
}
