package frames_test

import (
	"encoding/binary"
	"math"
	"strings"
	"testing"

	"limewash/api"
	"limewash/frames"
)

// TestOpenForm is for P7.2: each byte of sectors of frames with each other value, and the crc that belongs to it.
func TestOpenForm(t *testing.T) {
	for k, f := range someFrames() {
		for i := range sumFrom {
			for v := range 256 {
				// Bytes of the data are alike: all their values are tried for one frame.
				if k > 0 && i >= 8 && i < 118 && v%85 > 1 {
					continue
				}
				s := sectorOf(7, f)
				s[i] = byte(v)
				s = summed(s)
				compareOpen(t, 7, s)
				if i >= 120 || i < 4 {
					compareOpen(t, v, s)
				}
			}
		}
	}
}

// TestOpenMark is for P7.2: the first byte, and the byte that is 0.
func TestOpenMark(t *testing.T) {
	for v := range 256 {
		s := sectorOf(7, api.FrFrame{Kind: 1, Seq: 2, Data: "mark"})
		s[0] = byte(v)
		if v != mark {
			fails(t, 7, summed(s), api.ErrForm)
			fails(t, 8, summed(s), api.ErrForm)
		}
		s[0], s[3] = mark, byte(v)
		if v != 0 {
			fails(t, 7, summed(s), api.ErrForm)
			fails(t, 8, summed(s), api.ErrForm)
		}
	}
	s := sectorOf(7, api.FrFrame{Kind: 1, Seq: 2, Data: "kind"})
	s[1] = 0
	fails(t, 7, summed(s), api.ErrForm)
}

// TestOpenSize is for P7.2: each number of bytes with each number of bytes that are not 0.
func TestOpenSize(t *testing.T) {
	for size := range 256 {
		for many := range mostBytes + 1 {
			s := api.Sector{mark, 1, byte(size)}
			copy(s[8:], strings.Repeat("\x01", many))
			s[120] = 7
			s = summed(s)
			if size <= mostBytes && many <= size {
				opens(t, 7, s, api.FrFrame{Kind: 1, Data: strings.Repeat("\x01", many) + strings.Repeat("\x00", size-many)})
			} else {
				fails(t, 7, s, api.ErrForm)
			}
			compareOpen(t, 7, s)
		}
	}
}

// TestOpenPadding is for P7.2: each byte behind the data is 0.
func TestOpenPadding(t *testing.T) {
	for size := range mostBytes {
		for i := 8 + size; i < 120; i++ {
			s := sectorOf(7, api.FrFrame{Kind: 1, Seq: 2, Data: strings.Repeat("p", size)})
			s[i] = byte(1 << (i % 8))
			fails(t, 7, summed(s), api.ErrForm)
			fails(t, 8, summed(s), api.ErrForm)
		}
	}
}

// TestOpenPlaces is for P7.2: a place in the sector that there is not is a wrong form, and not another place.
func TestOpenPlaces(t *testing.T) {
	wrong := []uint32{256, 257, 263, 511, 512, 1 << 16, 1<<16 + 7, 1 << 24, 1<<24 + 7, 7 << 24, 1<<31 - 1, 1 << 31, 1<<31 + 7, math.MaxUint32}
	for bit := 8; bit < 32; bit++ {
		wrong = append(wrong, 1<<bit, 1<<bit+7, 1<<bit+255)
	}
	for _, f := range someFrames() {
		for _, place := range wrong {
			s := sectorOf(0, f)
			binary.LittleEndian.PutUint32(s[120:], place)
			for _, at := range []int{0, 1, 7, 255} {
				fails(t, at, summed(s), api.ErrForm)
			}
			fails(t, int(place%256), summed(s), api.ErrForm)
		}
	}
}

// TestOpenRandom is for P7.2: sectors of frames in which some bytes are others, with a crc that is right or not.
func TestOpenRandom(t *testing.T) {
	next := numbers(2)
	for range 30000 {
		at := next(256)
		s := sectorOf(at, randomFrame(next))
		for range next(3) {
			s[next(sectorSize)] = byte(next(256))
		}
		if next(2) == 0 {
			s = summed(s)
		}
		compareOpen(t, at, s)
		compareOpen(t, next(256), s)
	}
}

// TestOneSector is for P7.4: Open of Seal is the frame.
func TestOneSector(t *testing.T) {
	for _, f := range someFrames() {
		for at := range mostPlace + 1 {
			opens(t, at, mustSeal(t, at, f), f)
		}
	}
	next := numbers(3)
	for range 20000 {
		at, f := next(256), randomFrame(next)
		opens(t, at, mustSeal(t, at, f), f)
	}
}

// TestOneFrame is for P7.4: if Open returns a frame, Seal of it is the same sector, whatever is in the sector.
func TestOneFrame(t *testing.T) {
	next := numbers(4)
	opened, failed := 0, 0
	for range 60000 {
		at := next(256)
		s := sectorOf(at, randomFrame(next))
		for range next(3) {
			// Bytes that have a meaning are changed more often.
			i := []int{0, 1, 2, 3, 4, 7, 8, 119, 120, 121, 123, next(sumFrom)}[next(12)]
			s[i] ^= []byte{0, 1, 128, byte(next(256))}[next(4)]
		}
		s = summed(s)
		f, e := frames.Open(at, s)
		if e != api.OK {
			failed++
			continue
		}
		opened++
		if again := mustSeal(t, at, f); again != s {
			t.Fatalf("Seal of %v at %d: %v, was %v", f, at, again, s)
		}
	}
	if opened < 1000 || failed < 1000 {
		t.Fatalf("%d sectors were opened, %d failed", opened, failed)
	}
}

// TestPlaces is for P7.5: the sector of a frame is that of no other place.
func TestPlaces(t *testing.T) {
	for _, f := range someFrames()[4:7] {
		for at := range mostPlace + 1 {
			s := mustSeal(t, at, f)
			for other := range mostPlace + 1 {
				if other != at {
					fails(t, other, s, errPlace)
				}
			}
			opens(t, at, s, f)
		}
	}
	next := numbers(5)
	for range 5000 {
		at, other := next(256), next(256)
		if s := mustSeal(t, at, randomFrame(next)); other != at {
			fails(t, other, s, errPlace)
		}
	}
}

// turn is s, with the bits of turned turned from the bit first on, each byte from its lowest bit on.
func turn(s api.Sector, first int, turned uint32) api.Sector {
	for i := range 32 {
		if turned>>i&1 == 1 {
			s[(first+i)/8] ^= 1 << ((first + i) % 8)
		}
	}
	return s
}

// burst fails if a sector opens as a frame after some of its bits were turned.
func burst(t *testing.T, at int, s api.Sector, first int, turned uint32) {
	t.Helper()
	c := turn(s, first, turned)
	for _, place := range []int{at, (at + 1) % 256, int(c[120])} {
		if f, e := frames.Open(place, c); e == api.OK || f != (api.FrFrame{}) {
			t.Fatalf("the bits %b from %d on were turned, and Open at %d is %v %d", turned, first, place, f, e)
		}
	}
}

// TestBurstsShort is for P7.6: all ways to turn bits among 8 in a row, and all pairs of bits among 32.
func TestBurstsShort(t *testing.T) {
	at := 77
	s := mustSeal(t, at, api.FrFrame{Kind: 4, Seq: 1 << 20, Data: "bits in a row"})
	for first := range sectorSize*8 - 7 {
		for turned := uint32(1); turned < 256; turned += 2 {
			burst(t, at, s, first, turned)
		}
	}
	for first := range sectorSize * 8 {
		for other := range 32 {
			if first+other < sectorSize*8 {
				burst(t, at, s, first, 1|1<<other)
			}
		}
	}
}

// TestBurstsLong is for P7.6: bits among 32 in a row from each bit on, also over the bounds of the parts.
func TestBurstsLong(t *testing.T) {
	next := numbers(6)
	for first := range sectorSize*8 - 31 {
		for k := range 40 {
			at, f := next(256), randomFrame(next)
			if k < 5 {
				f = api.FrFrame{Kind: 1 << k}
				at = 0
			}
			turned := uint32(next(1<<16))<<16 | uint32(next(1<<16)) | 1<<31 | 1
			switch k % 4 {
			case 0:
				turned = math.MaxUint32
			case 1:
				// The number by which the crc is made.
				turned = 3988292384
			}
			burst(t, at, mustSeal(t, at, f), first, turned)
		}
	}
}

// TestBurstsOfParts is for P7.6: 32 bits in a row become those of other numbers, or of another crc.
func TestBurstsOfParts(t *testing.T) {
	next := numbers(7)
	for range 3000 {
		at := next(256)
		s, other := mustSeal(t, at, randomFrame(next)), mustSeal(t, next(256), randomFrame(next))
		for i := 0; i <= sectorSize-4; i++ {
			c := s
			copy(c[i:i+4], other[i:i+4])
			if c == s {
				continue
			}
			fails(t, at, c, errSum)
		}
	}
}
