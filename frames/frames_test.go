package frames_test

import (
	"encoding/binary"
	"math"
	"strings"
	"testing"

	"limewash/api"
	"limewash/frames"
)

// The numbers of the chapter, written out.
const (
	mark       = 76
	mostPlace  = 255
	mostKind   = 255
	mostBytes  = 112
	errBlank   = api.Errno(70)
	errSum     = api.Errno(71)
	errPlace   = api.Errno(72)
	sumFrom    = 120 + 4
	sectorSize = 128
)

// wantCrc is the crc as chapter 4 defines it.
func wantCrc(b []byte) uint32 {
	r := uint32(math.MaxUint32)
	for _, c := range b {
		r ^= uint32(c)
		for range 8 {
			if r%2 == 1 {
				r = r/2 ^ 3988292384
			} else {
				r /= 2
			}
		}
	}
	return r ^ math.MaxUint32
}

// summed is s with the crc that belongs to its first 124 bytes.
func summed(s api.Sector) api.Sector {
	binary.LittleEndian.PutUint32(s[sumFrom:], wantCrc(s[:sumFrom]))
	return s
}

// sectorOf is the sector of a frame, by the table of the chapter.
func sectorOf(at int, f api.FrFrame) api.Sector {
	s := api.Sector{mark, byte(f.Kind), byte(len(f.Data)), 0}
	binary.LittleEndian.PutUint32(s[4:], f.Seq)
	copy(s[8:120], f.Data)
	binary.LittleEndian.PutUint32(s[120:], uint32(at))
	return summed(s)
}

// wantSeal is what Seal is to return.
func wantSeal(at, kind int, seq uint32, data string) (api.Sector, api.Errno) {
	if at < 0 || at > mostPlace || kind < 1 || kind > mostKind {
		return api.Sector{}, api.ErrRange
	}
	if len(data) > mostBytes {
		return api.Sector{}, api.ErrLong
	}
	return sectorOf(at, api.FrFrame{Kind: kind, Seq: seq, Data: data}), api.OK
}

// isFrame says whether a sector whose crc is right is that of some frame at some place.
func isFrame(s api.Sector) bool {
	if s[0] != mark || s[1] == 0 || s[2] > mostBytes || s[3] != 0 {
		return false
	}
	for i := 8 + int(s[2]); i < 120; i++ {
		if s[i] != 0 {
			return false
		}
	}
	return s[121] == 0 && s[122] == 0 && s[123] == 0
}

// wantOpen is what Open is to return.
func wantOpen(at int, s api.Sector) (api.FrFrame, api.Errno) {
	switch {
	case at < 0 || at > mostPlace:
		return api.FrFrame{}, api.ErrRange
	case s == api.Sector{}:
		return api.FrFrame{}, errBlank
	case s != summed(s):
		return api.FrFrame{}, errSum
	case !isFrame(s):
		return api.FrFrame{}, api.ErrForm
	case int(s[120]) != at:
		return api.FrFrame{}, errPlace
	}
	return api.FrFrame{Kind: int(s[1]), Seq: binary.LittleEndian.Uint32(s[4:]), Data: string(s[8 : 8+int(s[2])])}, api.OK
}

// numbers yields numbers that look random, and are the same in each run.
func numbers(seed uint64) func(n int) int {
	return func(n int) int {
		seed = seed*6364136223846793005 + 1442695040888963407
		return int(seed>>33) % n
	}
}

// randomFrame is a frame of any kind, number and length.
func randomFrame(next func(int) int) api.FrFrame {
	b := make([]byte, next(mostBytes+1))
	for i := range b {
		b[i] = byte(next(256))
	}
	return api.FrFrame{Kind: 1 + next(mostKind), Seq: uint32(next(1<<16))<<16 | uint32(next(1<<16)), Data: string(b)}
}

// someFrames are frames at the limits of each part.
func someFrames() []api.FrFrame {
	var l []api.FrFrame
	for _, data := range []string{"", "\x00", "ab", strings.Repeat("\x00", 112), strings.Repeat("\xff", 112), strings.Repeat("limewash", 14)} {
		l = append(l, api.FrFrame{Kind: 1, Seq: 0, Data: data}, api.FrFrame{Kind: 255, Seq: math.MaxUint32, Data: data}, api.FrFrame{Kind: 2, Seq: 258, Data: data})
	}
	return l
}

func compareSeal(t *testing.T, at, kind int, seq uint32, data string) {
	t.Helper()
	want, wantE := wantSeal(at, kind, seq, data)
	if s, e := frames.Seal(at, kind, seq, data); s != want || e != wantE {
		t.Fatalf("Seal(%d, %d, %d, %.200q): %v %d, want %v %d", at, kind, seq, data, s, e, want, wantE)
	}
}

func compareOpen(t *testing.T, at int, s api.Sector) {
	t.Helper()
	want, wantE := wantOpen(at, s)
	if f, e := frames.Open(at, s); f != want || e != wantE {
		t.Fatalf("Open(%d, %v): %v %d, want %v %d", at, s, f, e, want, wantE)
	}
}

func mustSeal(t *testing.T, at int, f api.FrFrame) api.Sector {
	t.Helper()
	s, e := frames.Seal(at, f.Kind, f.Seq, f.Data)
	if e != api.OK {
		t.Fatalf("Seal of %v at %d: %d", f, at, e)
	}
	return s
}

// opens fails if Open of s at the place at is not f.
func opens(t *testing.T, at int, s api.Sector, f api.FrFrame) {
	t.Helper()
	if got, e := frames.Open(at, s); got != f || e != api.OK {
		t.Fatalf("Open of %v at %d: %v %d, want %v", s, at, got, e, f)
	}
}

// fails fails if Open of s at the place at does not return the error want, and no frame.
func fails(t *testing.T, at int, s api.Sector, want api.Errno) {
	t.Helper()
	if f, e := frames.Open(at, s); f != (api.FrFrame{}) || e != want {
		t.Fatalf("Open of %v at %d: %v %d, want %d", s, at, f, e, want)
	}
}

// wrongNumbers are numbers that neither a place nor a kind may have.
var wrongNumbers = []int{math.MinInt, math.MinInt + 1, -1 << 32, -256, -255, -2, -1, 256, 257, 258, 300, 511, 512, 1 << 16, 1<<32 - 1, 1 << 32, 1<<32 + 1, 1<<32 + 3, math.MaxInt - 1, math.MaxInt}

// TestExamples is for P7.1 and P7.2: the examples of the chapter.
func TestExamples(t *testing.T) {
	if frames.ErrBlank != 70 || frames.ErrSum != 71 || frames.ErrPlace != 72 {
		t.Fatal("the numbers of the errors")
	}
	s, e := frames.Seal(3, 2, 258, "ab")
	if e != api.OK || [12]byte(s[:12]) != [12]byte{76, 2, 2, 0, 2, 1, 0, 0, 97, 98, 0, 0} || [4]byte(s[120:124]) != [4]byte{3, 0, 0, 0} {
		t.Fatalf("Seal: %v %d", s, e)
	}
	for i, b := range s {
		if i >= 12 && i < 120 && b != 0 {
			t.Fatalf("the byte %d of Seal: %d", i, b)
		}
	}
	if s != summed(s) {
		t.Fatalf("the crc of Seal: %v, want %v", s, summed(s))
	}
	opens(t, 3, s, api.FrFrame{Kind: 2, Seq: 258, Data: "ab"})
	fails(t, 4, s, errPlace)
	for i := range s {
		for v := range 256 {
			if c := s; byte(v) != s[i] {
				c[i] = byte(v)
				fails(t, 3, c, errSum)
			}
		}
	}
	fails(t, 3, api.Sector{}, errBlank)
	if s, e := frames.Seal(3, 2, 258, strings.Repeat("a", 113)); s != (api.Sector{}) || e != api.ErrLong {
		t.Fatalf("Seal of 113 bytes: %v %d", s, e)
	}
	if s, e := frames.Seal(3, 0, 258, "ab"); s != (api.Sector{}) || e != api.ErrRange {
		t.Fatalf("Seal of the kind 0: %v %d", s, e)
	}
}

// TestSealPlaces is for P7.1: all places, and all kinds.
func TestSealPlaces(t *testing.T) {
	for at := -10; at <= 600; at++ {
		for _, kind := range []int{-1, 0, 1, 9, 128, 254, 255, 256, 257} {
			compareSeal(t, at, kind, uint32(at), "data")
			compareSeal(t, kind, at, uint32(at), "data")
		}
	}
	for at := range mostPlace + 1 {
		for kind := 1; kind <= mostKind; kind++ {
			compareSeal(t, at, kind, 7, "")
		}
	}
}

// TestSealSeq is for P7.1: each bit of the number.
func TestSealSeq(t *testing.T) {
	for bit := range 32 {
		for _, seq := range []uint32{1 << bit, 1<<bit - 1, ^(uint32(1) << bit), 0x12345678 << bit} {
			compareSeal(t, 5, 6, seq, "x")
			opens(t, 5, mustSeal(t, 5, api.FrFrame{Kind: 6, Seq: seq, Data: "x"}), api.FrFrame{Kind: 6, Seq: seq, Data: "x"})
		}
	}
	compareSeal(t, 5, 6, 0, "x")
	compareSeal(t, 5, 6, math.MaxUint32, "x")
}

// TestSealData is for P7.1: all lengths, and all bytes at each place.
func TestSealData(t *testing.T) {
	next := numbers(1)
	for n := range 400 {
		b := make([]byte, n)
		compareSeal(t, 0, 1, 0, string(b))
		for i := range b {
			b[i] = byte(next(256))
		}
		compareSeal(t, next(256), 1+next(255), uint32(next(1<<30)), string(b))
	}
	for i := range mostBytes {
		for v := range 256 {
			b := make([]byte, i+1)
			b[i] = byte(v)
			compareSeal(t, 9, 8, 7, string(b))
		}
	}
	compareSeal(t, 9, 8, 7, strings.Repeat("long", 1<<18))
}

// TestSealErrors is for P7.1: numbers that do not fit are found before bytes that are too many, and nothing comes with an error.
func TestSealErrors(t *testing.T) {
	for _, data := range []string{"", "a", strings.Repeat("a", 112), strings.Repeat("a", 113), strings.Repeat("a", 128), strings.Repeat("a", 256), strings.Repeat("a", 1000)} {
		for _, wrong := range wrongNumbers {
			for _, right := range []int{0, 1, 100, 255} {
				compareSeal(t, wrong, right, 3, data)
				compareSeal(t, right, wrong, 3, data)
			}
			compareSeal(t, wrong, wrong, 3, data)
		}
		compareSeal(t, 0, 0, 3, data)
		compareSeal(t, 0, 1, 3, data)
		compareSeal(t, 255, 255, 3, data)
	}
}

// TestOpen is for P7.2: the frames that are in sectors.
func TestOpen(t *testing.T) {
	for _, f := range someFrames() {
		for at := range mostPlace + 1 {
			opens(t, at, sectorOf(at, f), f)
		}
	}
	for kind := 1; kind <= mostKind; kind++ {
		f := api.FrFrame{Kind: kind, Seq: uint32(kind) * 99999, Data: "kind"}
		opens(t, 17, sectorOf(17, f), f)
	}
	for n := range mostBytes + 1 {
		f := api.FrFrame{Kind: 3, Seq: 4, Data: strings.Repeat("n", n)}
		opens(t, 200, sectorOf(200, f), f)
		f.Data = strings.Repeat("\x00", n)
		opens(t, 0, sectorOf(0, f), f)
	}
}

// TestOpenRange is for P7.2: a place that there is not is found first, whatever else is wrong.
func TestOpenRange(t *testing.T) {
	form := summed(api.Sector{1, 2, 3})
	sum := sectorOf(3, api.FrFrame{Kind: 1})
	sum[9]++
	for _, s := range []api.Sector{{}, form, sum, sectorOf(3, api.FrFrame{Kind: 1}), sectorOf(255, api.FrFrame{Kind: 1}), sectorOf(0, api.FrFrame{Kind: 1}), summed(api.Sector{mark, 1, 121: 1})} {
		for _, at := range wrongNumbers {
			fails(t, at, s, api.ErrRange)
		}
		for at := -300; at < 600; at++ {
			compareOpen(t, at, s)
		}
	}
	// The place in the sector is 256, or beyond what a number of 32 bits with a sign has: the place asked for has it not either.
	for _, at := range []uint32{256, 1 << 31, math.MaxUint32} {
		s := api.Sector{mark, 1}
		binary.LittleEndian.PutUint32(s[120:], at)
		fails(t, int(at), summed(s), api.ErrRange)
	}
}

// TestOpenBlank is for P7.2: a blank sector, and sectors of which just one bit is not 0.
func TestOpenBlank(t *testing.T) {
	for at := range mostPlace + 1 {
		fails(t, at, api.Sector{}, errBlank)
	}
	for bit := range sectorSize * 8 {
		var s api.Sector
		s[bit/8] = 1 << (bit % 8)
		fails(t, bit%256, s, errSum)
	}
	fails(t, 0, summed(api.Sector{}), api.ErrForm)
}

// TestOpenSum is for P7.2: a crc that is not right is found before a wrong form and a wrong place.
func TestOpenSum(t *testing.T) {
	for _, f := range someFrames() {
		for _, s := range []api.Sector{sectorOf(7, f), summed(api.Sector{1, 2, 3}), summed(api.Sector{mark, 0, 200, 1, 120: 8}), summed(api.Sector{mark, 1, 123: 1})} {
			for bit := range 32 {
				c := s
				c[sumFrom+bit/8] ^= 1 << (bit % 8)
				fails(t, 7, c, errSum)
				fails(t, 8, c, errSum)
			}
			swapped, turned := s, s
			binary.BigEndian.PutUint32(swapped[sumFrom:], wantCrc(s[:sumFrom]))
			binary.LittleEndian.PutUint32(turned[sumFrom:], ^wantCrc(s[:sumFrom]))
			fails(t, 7, swapped, errSum)
			fails(t, 7, turned, errSum)
		}
	}
	for i := range sumFrom {
		s := sectorOf(7, api.FrFrame{Kind: 5, Seq: 6, Data: "sum"})
		binary.LittleEndian.PutUint32(s[sumFrom:], wantCrc(s[:i]))
		fails(t, 7, s, errSum)
	}
}
