package records_test

import (
	"bytes"
	"math/big"
	"slices"
	"strings"
	"testing"

	"limewash/api"
	"limewash/records"
)

// letters are all kinds.
const letters = "bwdqvsl"

// top is the greatest number.
const top = 1<<64 - 1

// many are the values of a record.
type many = []api.RcValue

func num(n uint64) api.RcValue     { return api.RcValue{Num: n} }
func str(s string) api.RcValue     { return api.RcValue{Str: s} }
func list(l ...uint32) api.RcValue { return api.RcValue{List: l} }

// text is a string of n bytes, long a list of n elements, and zeros are values for each kind of a form.
func text(n int) api.RcValue { return str(strings.Repeat("x", n)) }
func long(n int) api.RcValue { return list(make([]uint32, n)...) }
func zeros(form string) many { return make(many, len(form)) }

// repeat returns the value n times.
func repeat(v api.RcValue, n int) many { return slices.Repeat(many{v}, n) }

// power is 2^n.
func power(n int) *big.Int { return new(big.Int).Lsh(big.NewInt(1), uint(n)) }

// bitsOf is how many bits the numbers of a kind have, and 0 for other kinds.
func bitsOf(kind byte) int {
	return map[byte]int{'b': 8, 'w': 16, 'd': 32, 'q': 64, 'v': 64}[kind]
}

// digits are the n lowest digits of a number to a base, the lowest one first.
func digits(number uint64, base int64, n int) []byte {
	rest, digit, b := new(big.Int).SetUint64(number), new(big.Int), []byte{}
	for range n {
		rest.DivMod(rest, big.NewInt(base), digit)
		b = append(b, byte(digit.Int64()))
	}
	return b
}

// groupsOf is a number of the kind v, in the fewest groups that have room for it.
func groupsOf(number uint64) []byte {
	n := 1
	for new(big.Int).SetUint64(number).Cmp(power(7*n)) >= 0 {
		n++
	}
	b := digits(number, 128, n)
	for i := range n - 1 {
		b[i] += 128
	}
	return b
}

// wantValue is a value in bytes, or what is wrong with it.
func wantValue(kind byte, v api.RcValue) ([]byte, api.Errno) {
	number := bitsOf(kind) > 0
	switch {
	case v.Num != 0 && !number, v.Str != "" && kind != 's', len(v.List) != 0 && kind != 'l':
		return nil, api.ErrArg
	case number && new(big.Int).SetUint64(v.Num).Cmp(power(bitsOf(kind))) >= 0:
		return nil, api.ErrRange
	case len(v.Str) > 400, len(v.List) > 60:
		return nil, api.ErrLong
	case kind == 'v':
		return groupsOf(v.Num), api.OK
	case number:
		return digits(v.Num, 256, bitsOf(kind)/8), api.OK
	case kind == 's':
		return slices.Concat(groupsOf(uint64(len(v.Str))), []byte(v.Str)), api.OK
	}
	b := groupsOf(uint64(len(v.List)))
	for _, n := range v.List {
		b = slices.Concat(b, digits(uint64(n), 256, 4))
	}
	return b, api.OK
}

// wantForm is what is wrong with a form.
func wantForm(form string) api.Errno {
	if len(form) > 64 {
		return api.ErrLong
	}
	for i := range len(form) {
		if strings.IndexByte(letters, form[i]) < 0 {
			return api.ErrArg
		}
	}
	return api.OK
}

// wantEncode is the record of values, as the document says.
func wantEncode(form string, l many) ([]byte, api.Errno) {
	if e := wantForm(form); e != api.OK {
		return nil, e
	}
	if len(form) != len(l) {
		return nil, api.ErrArg
	}
	var b []byte
	for i, v := range l {
		part, e := wantValue(form[i], v)
		if e != api.OK {
			return nil, e
		}
		b = slices.Concat(b, part)
	}
	if len(b) > 4000 {
		return nil, api.ErrLong
	}
	return b, api.OK
}

// compareEncode tries Size and Encode, and returns the record.
func compareEncode(t *testing.T, form string, l many) []byte {
	t.Helper()
	want, wantE := wantEncode(form, l)
	if got, e := records.Encode(form, l); e != wantE || !bytes.Equal(got, want) {
		t.Fatalf("Encode(%q, %.200v): %.100v %d, want %.100v %d", form, l, got, e, want, wantE)
	}
	if got, e := records.Size(form, l); e != wantE || got != len(want) {
		t.Fatalf("Size(%q, %.200v): %d %d, want %d %d", form, l, got, e, len(want), wantE)
	}
	return want
}

// edges are numbers at the edges of the kinds, of bytes and of groups.
func edges() []uint64 {
	l := []uint64{0, top}
	for n := range 64 {
		l = append(l, 1<<n-1, 1<<n, 1<<n+1, top-1<<n)
	}
	return l
}

// TestEncodeExamples is for P5.1.
func TestEncodeExamples(t *testing.T) {
	for _, c := range []struct {
		form string
		l    many
		want []byte
		e    api.Errno
	}{
		{"bw", many{num(7), num(258)}, []byte{7, 2, 1}, api.OK},
		{"v", many{num(300)}, []byte{172, 2}, api.OK},
		{"s", many{str("ab")}, []byte{2, 97, 98}, api.OK},
		{"l", many{list(1, 2)}, []byte{2, 1, 0, 0, 0, 2, 0, 0, 0}, api.OK},
		{"dq", many{num(1 << 24), num(top - 1)}, []byte{0, 0, 0, 1, 254, 255, 255, 255, 255, 255, 255, 255}, api.OK},
		{"v", many{num(top)}, []byte{255, 255, 255, 255, 255, 255, 255, 255, 255, 1}, api.OK},
		{"vsl", many{{}, {}, {}}, []byte{0, 0, 0}, api.OK},
		{"", nil, nil, api.OK},
		{"b", many{num(256)}, nil, api.ErrRange},
		{"b", many{{Num: 1, Str: "x"}}, nil, api.ErrArg},
		{"x", many{{}}, nil, api.ErrArg},
		{"b", nil, nil, api.ErrArg},
	} {
		if got, e := records.Encode(c.form, c.l); e != c.e || !bytes.Equal(got, c.want) {
			t.Errorf("Encode(%q, %v): %v %d, want %v %d", c.form, c.l, got, e, c.want, c.e)
		}
		if got, e := records.Size(c.form, c.l); e != c.e || got != len(c.want) {
			t.Errorf("Size(%q, %v): %v %d, want %v %d", c.form, c.l, got, e, len(c.want), c.e)
		}
		compareEncode(t, c.form, c.l)
	}
}

// TestEncode is for P5.1: values of each kind, alone and between others.
func TestEncode(t *testing.T) {
	for _, kind := range letters {
		for _, n := range edges() {
			compareEncode(t, string(kind), many{num(n)})
			compareEncode(t, "b"+string(kind)+"s", many{num(1), num(n), str("y")})
		}
	}
	for n := range 410 {
		compareEncode(t, "s", many{text(n)})
	}
	compareEncode(t, "s", many{str("\x00\xff\n\xc3\xa9")})
	for n := range 70 {
		l := make([]uint32, n)
		for i := range l {
			l[i] = uint32(i)*2654435769 + 1
		}
		compareEncode(t, "l", many{list(l...)})
	}
	compareEncode(t, "l", many{list(0, 1, 255, 256, 65535, 65536, 1<<32-1)})
}

// TestForms is for P5.1 and P5.2: what is a form, and how many values there are.
func TestForms(t *testing.T) {
	b := strings.Repeat("b", 63)
	forms := []string{"", letters, b, b + "v", b + "vv", b + "x", b + "bx", "x" + b, "x" + b + "b", strings.Repeat("x", 65), strings.Repeat(b, 20), "b\xc3\xa9"}
	for c := range 256 {
		forms = append(forms, string([]byte{byte(c)}), string([]byte{'b', byte(c)}), string([]byte{byte(c), 'b'}))
	}
	for _, form := range forms {
		compareEncode(t, form, zeros(form))
		compareEncode(t, form, nil)
		compareEncode(t, form, many{})
		compareEncode(t, form, zeros(form+"b"))
		compareDecode(t, form, make([]byte, 600))
		compareDecode(t, form, nil)
	}
}

// TestEncodeFields is for P5.1: the first value that is wrong counts, and its fields before its limits.
func TestEncodeFields(t *testing.T) {
	fields := many{{}, num(1), num(256), num(top), str("x"), text(401), list(0), long(61), {List: []uint32{}},
		{Num: 1, Str: "x"}, {Num: 1, List: []uint32{1}}, {Str: "x", List: []uint32{1}}, {Num: 256, Str: "x", List: []uint32{1}},
		{Num: top, Str: "x"}, {Num: 1, Str: text(401).Str}, {Num: 1, List: long(61).List}, {Str: "x", List: long(61).List}, {Str: text(401).Str, List: []uint32{1}}}
	for _, kind := range letters {
		for _, v := range fields {
			compareEncode(t, string(kind), many{v})
			for _, other := range letters {
				for _, w := range fields {
					compareEncode(t, string(kind)+string(other), many{v, w})
				}
			}
		}
		// The number of values comes before their fields.
		compareEncode(t, string(kind), many{{Num: top, Str: "x"}, {}})
		compareEncode(t, string(kind)+"b", many{text(401)})
	}
}

// TestEncodeLong is for P5.1: records of about 4000 bytes.
func TestEncodeLong(t *testing.T) {
	for n := 370; n <= 401; n++ {
		l := append(repeat(text(400), 9), text(n))
		if b := compareEncode(t, "ssssssssss", l); n < 401 && (n <= 380) != (b != nil) {
			t.Errorf("a record of %d bytes", len(b))
		}
		compareEncode(t, "ssssssssss"+"b", append(l, num(1)))
		// What is wrong with a value comes before the record's size.
		compareEncode(t, "ssssssssss"+"b", append(l, num(256)))
		compareEncode(t, "ssssssssss"+"b", append(l, str("x")))
		compareEncode(t, "ssssssssss"+"s", append(l, text(401)))
		compareEncode(t, "ssssssssss"+"x", append(l, num(1)))
		compareEncode(t, "ssssssssss"+"b", l)
	}
	for n := range 65 - 15 {
		compareEncode(t, strings.Repeat("l", 15)+strings.Repeat("q", n), append(repeat(long(60), 15), repeat(num(top), n)...))
	}
	compareEncode(t, strings.Repeat("l", 64), repeat(long(60), 64))
	compareEncode(t, strings.Repeat("s", 64), repeat(text(400), 64))
	compareEncode(t, strings.Repeat("s", 64), repeat(text(60), 64))
	compareEncode(t, strings.Repeat("v", 64), repeat(num(top), 64))
}
