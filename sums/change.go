package sums

import (
	"slices"

	"limewash/api"
)

// patchBytes is how many bytes Patch replaces: as many as a crc has.
const patchBytes = 4

// Patch returns b with other bytes from at on, so that its crc is want.
func Patch(b []byte, at int, want uint32) ([]byte, api.Errno) {
	if at < 0 || at > len(b)-patchBytes {
		return nil, api.ErrRange
	}
	before := toRegister(Crc(b[:at]))
	after := toRegister(want)
	for i := len(b) - 1; i >= at+patchBytes; i-- {
		after.undo(b[i])
	}
	// To add four bytes is to xor all of them to the register, the first one to its lowest bits, and to add four bytes 0 then.
	for range patchBytes {
		after.undo(0)
	}
	change := before ^ after
	p := slices.Clone(b)
	for i := range patchBytes {
		p[at+i] = byte(change >> (8 * i))
	}
	return p, api.OK
}

// Locate returns a byte of b and its new value that make the crc want.
func Locate(b []byte, want uint32) (at int, value byte, e api.Errno) {
	if len(b) > api.MaxSmPatch {
		return 0, 0, api.ErrLong
	}
	// The xor of the registers of b and of the changed bytes: after the changed byte, only bytes 0 change it.
	change := toRegister(Crc(b)) ^ toRegister(want)
	if change == 0 {
		return 0, 0, api.ErrTwice
	}
	e = api.ErrNone
	for i := len(b) - 1; i >= 0; i-- {
		change.undo(0)
		if change < 256 {
			at, value, e = i, b[i]^byte(change), api.OK
		}
	}
	return at, value, e
}
