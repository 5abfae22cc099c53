package records

import (
	"slices"

	"limewash/api"
	"limewash/sums"
)

// sealBytes is how many bytes a crc has.
const sealBytes = 4

// Seal returns b, followed by its crc.
func Seal(b []byte) []byte {
	return addFixed(slices.Clone(b), uint64(sums.Crc(b)), sealBytes)
}

// Open returns the bytes that were sealed as b.
func Open(b []byte) ([]byte, api.Errno) {
	n := len(b) - sealBytes
	if n < 0 {
		return nil, api.ErrMore
	}
	if fixed(b[n:]) != uint64(sums.Crc(b[:n])) {
		return nil, api.ErrForm
	}
	return slices.Clone(b[:n]), api.OK
}

// Pad returns b, filled up to n bytes.
func Pad(b []byte, n int) ([]byte, api.Errno) {
	switch {
	case n < 1 || n > api.MaxRcBytes:
		return nil, api.ErrRange
	case len(b) >= n:
		return nil, api.ErrLong
	}
	full := make([]byte, n)
	copy(full, b)
	full[len(b)] = 1
	return full, api.OK
}

// Unpad returns the bytes that were filled up to b.
func Unpad(b []byte) ([]byte, api.Errno) {
	n := len(b) - 1
	for n >= 0 && b[n] == 0 {
		n--
	}
	if n < 0 || b[n] != 1 {
		return nil, api.ErrForm
	}
	return slices.Clone(b[:n]), api.OK
}
