package blocks

import "limewash/api"

// bitmap is the bytes in which each block has a bit, the lowest bit of a byte first.
type bitmap [api.Room]byte

// Encode returns the bitmap of a state.
func Encode(s api.BkState) ([]byte, api.Errno) {
	if e := Check(s); e != api.OK {
		return nil, e
	}
	m := bitmapOf(s)
	return m[:], api.OK
}

// Decode returns the state with the layout l whose bitmap is b.
func Decode(l api.BkLayout, b []byte) (api.BkState, api.Errno) {
	s, e := New(l)
	if e != api.OK {
		return api.BkState{}, e
	}
	if len(b) != api.Room {
		return api.BkState{}, api.ErrLong
	}
	m := bitmap(b)
	for block := range s.Used {
		s.Used[block] = m[block/8]>>(block%8)&1 == 1
	}
	// The state has no place for the bits of no block, so its bitmap is another one if one of them is 1.
	if bitmapOf(s) != m {
		return api.BkState{}, api.ErrForm
	}
	return s, api.OK
}

// bitmapOf returns the bitmap of a state that was checked.
func bitmapOf(s api.BkState) bitmap {
	var m bitmap
	for block, used := range s.Used {
		if used {
			m[block/8] |= 1 << (block % 8)
		}
	}
	return m
}
