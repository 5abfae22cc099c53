package records_test

import (
	"bytes"
	"math/big"
	"slices"
	"strings"
	"testing"

	"limewash/api"
	"limewash/records"
)

// wantGroups is the number of the kind v at the beginning of b, and how many bytes it has.
func wantGroups(b []byte) (uint64, int, api.Errno) {
	n := 1 + slices.IndexFunc(b[:min(len(b), 10)], func(c byte) bool { return c < 128 })
	if n == 0 && len(b) >= 10 {
		return 0, 0, api.ErrForm
	}
	if n == 0 {
		return 0, 0, api.ErrMore
	}
	number := new(big.Int)
	for i := n - 1; i >= 0; i-- {
		number.Mul(number, big.NewInt(128)).Add(number, big.NewInt(int64(b[i]%128)))
	}
	if number.Cmp(power(64)) >= 0 || len(groupsOf(number.Uint64())) != n {
		return 0, 0, api.ErrForm
	}
	return number.Uint64(), n, api.OK
}

// wantFixed is the number that all of b is, the lowest byte first.
func wantFixed(b []byte) uint64 {
	number := uint64(0)
	for i := len(b) - 1; i >= 0; i-- {
		number = 256*number + uint64(b[i])
	}
	return number
}

// wantRead is the value of a kind at the beginning of b, and how many bytes it has.
func wantRead(kind byte, b []byte) (v api.RcValue, n int, e api.Errno) {
	if bits := bitsOf(kind); kind != 'v' && bits > 0 {
		if len(b) < bits/8 {
			return api.RcValue{}, 0, api.ErrMore
		}
		return num(wantFixed(b[:bits/8])), bits / 8, api.OK
	}
	count, n, e := wantGroups(b)
	switch {
	case e != api.OK:
		return api.RcValue{}, 0, e
	case kind == 'v':
		return num(count), n, api.OK
	case kind == 's' && count > 400, kind == 'l' && count > 60:
		return api.RcValue{}, 0, api.ErrLong
	case kind == 's' && len(b) < n+int(count), kind == 'l' && len(b) < n+4*int(count):
		return api.RcValue{}, 0, api.ErrMore
	case kind == 's':
		return str(string(b[n : n+int(count)])), n + int(count), api.OK
	}
	for i := range int(count) {
		v.List = append(v.List, uint32(wantFixed(b[n+4*i:n+4*i+4])))
	}
	return v, n + 4*int(count), api.OK
}

// wantDecode reads values, one after the other, as the document says.
func wantDecode(form string, b []byte) (many, int, api.Errno) {
	if e := wantForm(form); e != api.OK {
		return nil, 0, e
	}
	var l many
	used := 0
	for i := range len(form) {
		v, n, e := wantRead(form[i], b[used:])
		if e != api.OK {
			return nil, 0, e
		}
		l, used = append(l, v), used+n
	}
	if used > 4000 {
		return nil, 0, api.ErrLong
	}
	return l, used, api.OK
}

// same says whether two lists have the same values.
func same(a, b many) bool {
	return slices.EqualFunc(a, b, func(v, w api.RcValue) bool {
		return v.Num == w.Num && v.Str == w.Str && slices.Equal(v.List, w.List)
	})
}

// compareDecode tries Decode and Whole, and that the record of what is read is what was read.
func compareDecode(t *testing.T, form string, b []byte) {
	t.Helper()
	want, wantUsed, wantE := wantDecode(form, b)
	got, used, e := records.Decode(form, b)
	if e != wantE || used != wantUsed || !same(got, want) {
		t.Fatalf("Decode(%q, %.100v): %.200v %d %d, want %.200v %d %d", form, b, got, used, e, want, wantUsed, wantE)
	}
	if wantE == api.OK && wantUsed < len(b) {
		want, wantE = nil, api.ErrForm
	}
	if l, e := records.Whole(form, b); e != wantE || !same(l, want) {
		t.Fatalf("Whole(%q, %.100v): %.200v %d, want %.200v %d", form, b, l, e, want, wantE)
	}
	if e == api.OK {
		if back, e := records.Encode(form, got); e != api.OK || !bytes.Equal(back, b[:used]) {
			t.Fatalf("Encode(%q, %.200v): %.100v %d, and it was read from %.100v", form, got, back, e, b[:used])
		}
	}
}

// TestDecodeExamples is for P5.2 and P5.3.
func TestDecodeExamples(t *testing.T) {
	for _, c := range []struct {
		form string
		b    []byte
		want many
		used int
		e    api.Errno
	}{
		{"v", []byte{172, 2, 5}, many{num(300)}, 2, api.OK},
		{"v", []byte{172}, nil, 0, api.ErrMore},
		{"v", []byte{172, 0}, nil, 0, api.ErrForm},
		{"s", []byte{145, 3}, nil, 0, api.ErrLong},
		{"d", []byte{1, 2, 3}, nil, 0, api.ErrMore},
		{"s", []byte{144, 3}, nil, 0, api.ErrMore},
		{"l", []byte{61}, nil, 0, api.ErrLong},
		{"l", []byte{60}, nil, 0, api.ErrMore},
		{"l", []byte{2, 1, 0, 0, 0, 2, 0, 0, 1, 7}, many{list(1, 1<<24+2)}, 9, api.OK},
		{"bws", []byte{7, 2, 1, 2, 97, 98}, many{num(7), num(258), str("ab")}, 6, api.OK},
		{"", []byte{1}, nil, 0, api.OK},
		{"", nil, nil, 0, api.OK},
	} {
		if l, used, e := records.Decode(c.form, c.b); e != c.e || used != c.used || !same(l, c.want) {
			t.Errorf("Decode(%q, %v): %v %d %d, want %v %d %d", c.form, c.b, l, used, e, c.want, c.used, c.e)
		}
		compareDecode(t, c.form, c.b)
	}
	if l, e := records.Whole("b", []byte{1, 2}); e != api.ErrForm || len(l) > 0 {
		t.Errorf("Whole of b from 1, 2: %v %d", l, e)
	}
	if l, e := records.Whole("b", []byte{2}); e != api.OK || !same(l, many{num(2)}) {
		t.Errorf("Whole of b from 2: %v %d", l, e)
	}
}

// few are bytes that matter to one kind or another.
var few = []byte{0, 1, 2, 60, 61, 127, 128, 129, 145, 255}

// strings4 calls f with each string of at most four bytes from few, and with each one of at most two bytes.
func strings4(f func(b []byte)) {
	f(nil)
	for c := range 256 {
		f([]byte{byte(c)})
		for d := range 256 {
			f([]byte{byte(c), byte(d)})
		}
	}
	for _, c := range few {
		for _, d := range few {
			for _, e := range few {
				f([]byte{c, d, e})
				for _, g := range few {
					f([]byte{c, d, e, g})
				}
			}
		}
	}
}

// TestDecodeShort is for P5.2, P5.3 and P5.7: all short strings of bytes.
func TestDecodeShort(t *testing.T) {
	strings4(func(b []byte) {
		for _, kind := range letters {
			compareDecode(t, string(kind), b)
		}
		for _, form := range []string{"bb", "vv", "sv", "vs", "lb", "bvsl", "wv", "ss"} {
			compareDecode(t, form, b)
		}
	})
}

// TestDecodeGroups is for P5.2: numbers of the kind v of up to twelve groups.
func TestDecodeGroups(t *testing.T) {
	for _, low := range []byte{128, 129, 255} {
		for n := range 12 {
			start := bytes.Repeat([]byte{low}, n)
			compareDecode(t, "v", start)
			for last := range 256 {
				for _, after := range [][]byte{nil, {0}, {1}, {2}, {128}, {255, 1}, {128, 128, 0}} {
					b := slices.Concat(start, []byte{byte(last)}, after)
					compareDecode(t, "v", b)
					compareDecode(t, "s", b)
					compareDecode(t, "l", b)
					compareDecode(t, "bv", slices.Concat([]byte{9}, b))
				}
			}
		}
	}
	for _, n := range edges() {
		compareDecode(t, "v", groupsOf(n))
		compareDecode(t, "s", slices.Concat(groupsOf(n), make([]byte, 500)))
		compareDecode(t, "l", slices.Concat(groupsOf(n), make([]byte, 500)))
	}
}

// TestDecodeCounts is for P5.2: strings and lists at their limits, with too few, enough and too many bytes.
func TestDecodeCounts(t *testing.T) {
	for n := range 420 {
		for _, have := range []int{0, n - 1, n, n + 1, 4*n - 1, 4 * n, 4*n + 1} {
			b := slices.Concat(groupsOf(uint64(n)), bytes.Repeat([]byte{200}, max(have, 0)))
			compareDecode(t, "s", b)
			compareDecode(t, "l", b)
		}
	}
}

// TestDecodeLong is for P5.2: records of about 4000 bytes, and values after them that cannot be read.
func TestDecodeLong(t *testing.T) {
	nine, _ := wantEncode("sssssssss", repeat(text(400), 9))
	for n := 370; n <= 401; n++ {
		ten := slices.Concat(nine, groupsOf(uint64(n)), make([]byte, n))
		for _, form := range []string{"", "b", "d", "v", "s", "l", "x", "bs"} {
			for _, after := range [][]byte{nil, {0}, {128}, {128, 0}, {255, 127}, {1, 0, 0, 0}, {0, 128, 0}} {
				compareDecode(t, "ssssssssss"+form, slices.Concat(ten, after))
			}
		}
	}
	compareDecode(t, strings.Repeat("s", 64), bytes.Repeat(slices.Concat([]byte{144, 3}, make([]byte, 400)), 64))
	compareDecode(t, strings.Repeat("l", 64), bytes.Repeat(slices.Concat([]byte{60}, make([]byte, 240)), 64))
	compareDecode(t, strings.Repeat("b", 64), make([]byte, 5000))
}

// numbers returns a function that returns numbers of 32 bits, the same ones in each run.
func numbers(seed uint64) func() uint32 {
	return func() uint32 {
		seed = seed*6364136223846793005 + 1442695040888963407
		return uint32(seed >> 32)
	}
}

// below returns a number below n.
func below(next func() uint32, n int) int {
	return int(next()>>1) % n
}

// random returns n bytes.
func random(next func() uint32, n int) []byte {
	b := make([]byte, n)
	for i := range b {
		b[i] = byte(next() >> 7)
	}
	return b
}

// anyRecord is a form with at most most kinds, and values for it.
func anyRecord(next func() uint32, most int) (string, many) {
	var form []byte
	var l many
	for range below(next, most+1) {
		kind := letters[below(next, len(letters))]
		v := api.RcValue{}
		switch kind {
		case 's':
			v.Str = string(random(next, below(next, []int{3, 30, 300}[below(next, 3)])))
		case 'l':
			for range below(next, []int{3, 61}[below(next, 2)]) {
				v.List = append(v.List, next()>>below(next, 32))
			}
		default:
			v.Num = (uint64(next())<<32 | uint64(next())) >> (64 - bitsOf(kind) + below(next, bitsOf(kind)))
		}
		form, l = append(form, kind), append(l, v)
	}
	return string(form), l
}

// TestThereAndBack is for P5.6 and P5.7.
func TestThereAndBack(t *testing.T) {
	next := numbers(1)
	for range 400 {
		form, l := anyRecord(next, 12)
		b := compareEncode(t, form, l)
		for _, after := range [][]byte{nil, {0}, {1}, {128}, {255, 255}, b, random(next, 20)} {
			got, used, e := records.Decode(form, slices.Concat(b, after))
			if e != api.OK || used != len(b) || !same(got, l) {
				t.Fatalf("Decode(%q, %.100v) and %v: %.200v %d %d", form, b, after, got, used, e)
			}
			compareDecode(t, form, slices.Concat(b, after))
		}
		for n := range b {
			if got, used, e := records.Decode(form, b[:n]); e != api.ErrMore || used != 0 || len(got) > 0 {
				t.Fatalf("Decode(%q, %.100v): %.200v %d %d, of %d bytes", form, b[:n], got, used, e, len(b))
			}
			if got, e := records.Whole(form, b[:n]); e != api.ErrMore || len(got) > 0 {
				t.Fatalf("Whole(%q, %.100v): %.200v %d, of %d bytes", form, b[:n], got, e, len(b))
			}
		}
	}
}

// TestOneWay is for P5.7: bytes that are no records, for the most part.
func TestOneWay(t *testing.T) {
	next := numbers(2)
	for range 3000 {
		form, _ := anyRecord(next, 5)
		b := random(next, below(next, 40))
		for i := range b {
			if next()%2 == 0 {
				b[i] %= 4
			}
		}
		compareDecode(t, form, b)
	}
}

// TestTwoForms is for P5.8.
func TestTwoForms(t *testing.T) {
	next := numbers(3)
	for range 1000 {
		form, l := anyRecord(next, 5)
		form2, l2 := anyRecord(next, 5)
		both, e := records.Encode(form+form2, slices.Concat(l, l2))
		first, e1 := records.Encode(form, l)
		second, e2 := records.Encode(form2, l2)
		if e != api.OK || e1 != api.OK || e2 != api.OK || !bytes.Equal(both, slices.Concat(first, second)) {
			t.Fatalf("Encode(%q, %.200v): %.100v %d, want %.100v, %.100v", form+form2, slices.Concat(l, l2), both, e, first, second)
		}
	}
}
