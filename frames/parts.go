package frames

import (
	"limewash/api"
	"limewash/sums"
)

// Where the parts of a sector begin; the first byte is the mark, and the byte before seqAt is 0.
const (
	kindAt  = 1
	sizeAt  = 2
	zeroAt  = 3
	seqAt   = 4
	dataAt  = 8
	placeAt = dataAt + api.MaxFrame
	sumAt   = placeAt + 4
)

// number is a number at a place in a sector.
type number struct {
	write func(n uint32)
	read  func() uint32
}

// parts is the numbers in a sector, the bytes for its data, and those that its crc is made of.
type parts struct {
	mark, kind, size, seq, at, sum number
	data, summed                   []byte
}

// partsOf returns the parts of s, by which s is written and read. None of them reaches beyond its end.
func partsOf(s *api.Sector) parts {
	return parts{
		mark:   numberIn(s[:kindAt:kindAt]),
		kind:   numberIn(s[kindAt:sizeAt:sizeAt]),
		size:   numberIn(s[sizeAt:zeroAt:zeroAt]),
		seq:    numberIn(s[seqAt:dataAt:dataAt]),
		data:   s[dataAt:placeAt:placeAt],
		at:     numberIn(s[placeAt:sumAt:sumAt]),
		summed: s[:sumAt:sumAt],
		sum:    numberIn(s[sumAt:api.SectorBytes:api.SectorBytes]),
	}
}

// numberIn returns the number that has these bytes, the lowest one first.
func numberIn(place []byte) number {
	return number{
		write: func(n uint32) {
			for i := range place {
				place[i] = byte(n >> (8 * i))
			}
		},
		read: func() uint32 {
			n := uint32(0)
			for i, b := range place {
				n |= uint32(b) << (8 * i)
			}
			return n
		},
	}
}

// crc returns the crc that belongs into the sector.
func (p parts) crc() uint32 {
	return sums.Crc(p.summed)
}

// frame returns the frame and the place that the numbers and the data say, whether or not the sector is that of a frame.
func (p parts) frame() (f api.FrFrame, place int) {
	// With a size above the limit, which no frame has, as much is taken as there is.
	size := min(p.size.read(), api.MaxFrame)
	f = api.FrFrame{Kind: int(p.kind.read()), Seq: p.seq.read(), Data: string(p.data[:size])}
	return f, int(p.at.read())
}
