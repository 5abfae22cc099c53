package blocks_test

import (
	"bytes"
	"slices"
	"strings"
	"testing"

	"limewash/api"
	"limewash/blocks"
)

// isRun says whether the blocks from from on, before end, are a run of free blocks.
func isRun(used string, from, end int) bool {
	return strings.Trim(used[from:end], ".") == "" && (from == 0 || used[from-1] == '#') && (end == len(used) || used[end] == '#')
}

// compareFree compares Count and Runs with what they are to return for the state used.
func compareFree(t *testing.T, used string) {
	t.Helper()
	var want []api.BkRun
	for from := range len(used) {
		for end := from + 1; end <= len(used) && used[end-1] == '.'; end++ {
			if isRun(used, from, end) {
				want = append(want, api.BkRun{From: from, Many: end - from})
			}
		}
	}
	s := stateOf(used)
	runs, e := blocks.Runs(s)
	if e != api.OK || !slices.Equal(runs, want) {
		t.Fatalf("Runs(%s): %v %d, want %v", used, runs, e, want)
	}
	free, e := blocks.Count(s)
	if wantFree := strings.Count(used, "."); e != api.OK || free != wantFree {
		t.Fatalf("Count(%s): %d %d, want %d", used, free, e, wantFree)
	}
	for _, r := range runs {
		free -= r.Many
	}
	if free != 0 {
		t.Fatalf("Runs(%s): %v, without %d blocks", used, runs, free)
	}
	if !sameState(s, stateOf(used)) {
		t.Fatalf("the state %s was changed: %v", used, s)
	}
}

// TestCountRuns is for P8.5 and P8.9: all states of 8 blocks, and states of all sizes.
func TestCountRuns(t *testing.T) {
	for _, used := range append(smallStates(), someStates()...) {
		compareFree(t, used)
	}
}

// wantBytes is the bitmap of the state used.
func wantBytes(used string) []byte {
	b := make([]byte, mapBytes)
	for i := range len(used) {
		if used[i] == '#' {
			b[i/8] += []byte{1, 2, 4, 8, 16, 32, 64, 128}[i%8]
		}
	}
	return b
}

// TestEncode is for P8.6 and P8.9: the bitmap of each state, and the state of this bitmap.
func TestEncode(t *testing.T) {
	for _, used := range append(smallStates(), someStates()...) {
		s := stateOf(used)
		b, e := blocks.Encode(s)
		if e != api.OK || !bytes.Equal(b, wantBytes(used)) {
			t.Fatalf("Encode(%s): %v %d", used, b, e)
		}
		if !sameState(s, stateOf(used)) {
			t.Fatalf("Encode(%s) has changed the state: %v", used, s)
		}
		if again, e := blocks.Decode(s.Layout, b); e != api.OK || !sameState(again, s) {
			t.Fatalf("Decode of Encode(%s): %v %d", used, again, e)
		}
	}
}

// compareDecode compares Decode with what it is to return for bytes, and Encode of that with the bytes.
func compareDecode(t *testing.T, l api.BkLayout, b []byte) {
	t.Helper()
	r, wantE := wantRegions(l)
	want := api.BkState{}
	if wantE == api.OK && len(b) != mapBytes {
		wantE = api.ErrLong
	}
	if wantE == api.OK {
		used := make([]bool, mapBytes*8)
		for i := range used {
			used[i] = b[i/8]/[]byte{1, 2, 4, 8, 16, 32, 64, 128}[i%8]%2 == 1
		}
		want = api.BkState{Layout: l, Used: used[:r.Blocks]}
		if slices.Contains(used[r.Blocks:], true) {
			want, wantE = api.BkState{}, api.ErrForm
		}
	}
	given := bytes.Clone(b)
	s, e := blocks.Decode(l, b)
	if e != wantE || !sameState(s, want) {
		t.Fatalf("Decode(%v, %v): %v %d, want %v %d", l, b, s, e, want, wantE)
	}
	if !bytes.Equal(b, given) {
		t.Fatalf("Decode(%v, %v) has changed the bytes: %v", l, given, b)
	}
	if e != api.OK {
		return
	}
	if again, e := blocks.Encode(s); e != api.OK || !bytes.Equal(again, b) {
		t.Fatalf("Encode of Decode(%v, %v): %v %d", l, b, again, e)
	}
}

// TestDecodeBits is for P8.6 and P8.9: each bit alone, and together with others, for each number of blocks.
func TestDecodeBits(t *testing.T) {
	for many := leastBlocks; many <= mostBlocks; many++ {
		l := layoutOf(many)
		compareDecode(t, l, make([]byte, mapBytes))
		compareDecode(t, l, bytes.Repeat([]byte{255}, mapBytes))
		compareDecode(t, l, wantBytes(strings.Repeat("#", many)))
		compareDecode(t, l, wantBytes(strings.Repeat("#", many+1)))
		for bit := range mapBytes * 8 {
			b := make([]byte, mapBytes)
			b[bit/8] = 1 << (bit % 8)
			compareDecode(t, l, b)
			copy(b, wantBytes(strings.Repeat("#.", many/2)))
			b[bit/8] ^= 1 << (bit % 8)
			compareDecode(t, l, b)
		}
	}
}

// TestDecodeBytes is for P8.6 and P8.9: each byte with each value.
func TestDecodeBytes(t *testing.T) {
	for _, many := range []int{8, 9, 14, 15, 16, 244, mostBlocks} {
		for i := range mapBytes {
			for v := range 256 {
				b := make([]byte, mapBytes)
				b[i] = byte(v)
				compareDecode(t, layoutOf(many), b)
			}
		}
	}
}

// TestDecodeErrors is for P8.6: any numbers of bytes, and layouts with an error, which comes first.
func TestDecodeErrors(t *testing.T) {
	layouts := append(edgeLayouts(), api.BkLayout{}, api.BkLayout{Sectors: 64, Journal: 8, Inodes: 47}, api.BkLayout{Sectors: 257, Journal: 8, Inodes: 40}, api.BkLayout{Sectors: 64, Journal: 97, Inodes: 40})
	for _, l := range layouts {
		compareDecode(t, l, nil)
		for n := range 200 {
			compareDecode(t, l, make([]byte, n))
			compareDecode(t, l, bytes.Repeat([]byte{255}, n))
		}
	}
	for _, c := range []struct {
		l    api.BkLayout
		b    []byte
		want api.Errno
	}{
		{api.BkLayout{Sectors: 64, Journal: 8, Inodes: 61}, bytes.Repeat([]byte{255}, 95), api.ErrRange},
		{api.BkLayout{Sectors: 64, Journal: 8, Inodes: 47}, bytes.Repeat([]byte{255}, 95), api.ErrFull},
		{api.BkLayout{Sectors: 64, Journal: 8, Inodes: 46}, bytes.Repeat([]byte{255}, 95), api.ErrLong},
		{api.BkLayout{Sectors: 64, Journal: 8, Inodes: 46}, bytes.Repeat([]byte{255}, 97), api.ErrLong},
		{api.BkLayout{Sectors: 64, Journal: 8, Inodes: 46}, nil, api.ErrLong},
		{api.BkLayout{Sectors: 64, Journal: 8, Inodes: 46}, bytes.Repeat([]byte{255}, 96), api.ErrForm},
		{api.BkLayout{Sectors: 64, Journal: 8, Inodes: 46}, append([]byte{255}, make([]byte, 95)...), api.OK},
	} {
		if _, e := blocks.Decode(c.l, c.b); e != c.want {
			t.Errorf("Decode(%v, %d bytes): %d, want %d", c.l, len(c.b), e, c.want)
		}
	}
}
