package records_test

import (
	"bytes"
	"slices"
	"testing"

	"limewash/api"
	"limewash/records"
)

// spoil fills all the memory of b with another byte, beyond its length as well.
func spoil(b []byte) {
	b = b[:cap(b)]
	for i := range b {
		b[i] = 0xee
	}
}

// spoilList fills all the memory of l.
func spoilList(l []uint32) {
	l = l[:cap(l)]
	for i := range l {
		l[i] = 9
	}
}

// roomy is a copy of b, with room for more, all of it 7.
func roomy(b []byte) []byte {
	return append(slices.Clone(b), bytes.Repeat([]byte{7}, 20)...)[:len(b)]
}

// intact fails if b, or the room behind it, is not what roomy has made of want.
func intact(t *testing.T, b, want []byte) {
	t.Helper()
	if rest := b[len(b) : len(b)+20]; !bytes.Equal(b, want) || !bytes.Equal(rest, bytes.Repeat([]byte{7}, 20)) {
		t.Fatalf("an argument was changed: %v and %v, was %v", b, rest, want)
	}
}

// TestFreshBytes is for P5.9: bytes that are given, and bytes that are returned.
func TestFreshBytes(t *testing.T) {
	seal := func(b []byte) ([]byte, api.Errno) { return records.Seal(b), api.OK }
	pad := func(b []byte) ([]byte, api.Errno) { return records.Pad(b, 12) }
	for _, f := range []func([]byte) ([]byte, api.Errno){seal, records.Open, pad, records.Unpad} {
		for _, b := range [][]byte{{}, {1}, {5, 1, 0}, {9, 9}, {0, 0, 0, 0}, wantSeal([]byte{1, 2, 3}), make([]byte, 12)} {
			given := roomy(b)
			got, e := f(given)
			intact(t, given, b)
			want := slices.Clone(got)
			spoil(got)
			intact(t, given, b)
			again, e2 := f(given)
			if e2 != e || !bytes.Equal(again, want) {
				t.Fatalf("of %v: %v %d, then %v %d", b, want, e, again, e2)
			}
			spoil(given)
			if !bytes.Equal(again, want) {
				t.Fatalf("a result of %v was changed to %v", b, again)
			}
		}
	}
}

// TestFreshValues is for P5.9: values that are written, and values that are read.
func TestFreshValues(t *testing.T) {
	form, l := "lsbl", many{list(1, 2, 3), str("abc"), num(7), list(4)}
	b := compareEncode(t, form, l)
	if !same(l, many{list(1, 2, 3), str("abc"), num(7), list(4)}) {
		t.Fatalf("the values were changed: %v", l)
	}
	first, _ := records.Encode(form, l)
	spoil(first)
	given := roomy(b)
	got, _, _ := records.Decode(form, given)
	whole, _ := records.Whole(form, given)
	intact(t, given, b)
	spoil(given)
	if !same(got, l) || !same(whole, l) {
		t.Fatalf("values that were read have changed: %v, %v", got, whole)
	}
	spoilList(whole[0].List)
	if !same(got, l) || !same(whole[1:], l[1:]) {
		t.Fatalf("lists share memory: %v, %v", got, whole)
	}
	if again := compareEncode(t, form, l); !bytes.Equal(again, b) {
		t.Fatalf("the record has changed: %v, was %v", again, b)
	}
}
