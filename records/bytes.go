package records

import "limewash/api"

// maxGroups is how many groups of 7 bits a number has at most.
const maxGroups = 10

// addFixed adds n to b, in so many bytes, the lowest one first.
func addFixed(b []byte, n uint64, bytes int) []byte {
	for range bytes {
		b = append(b, byte(n))
		n >>= 8
	}
	return b
}

// fixed is the number in b, the lowest byte first.
func fixed(b []byte) uint64 {
	var n uint64
	for i, c := range b {
		n |= uint64(c) << (8 * i)
	}
	return n
}

// addGroups adds n to b in groups of 7 bits, the lowest one first.
func addGroups(b []byte, n uint64) []byte {
	for ; n > 127; n >>= 7 {
		b = append(b, byte(n)|128)
	}
	return append(b, byte(n))
}

// reader has the bytes that are not yet read.
type reader struct{ rest []byte }

// take reads n bytes.
func (r *reader) take(n int) ([]byte, api.Errno) {
	if len(r.rest) < n {
		return nil, api.ErrMore
	}
	b := r.rest[:n]
	r.rest = r.rest[n:]
	return b, api.OK
}

// groups reads a number in groups of 7 bits.
func (r *reader) groups() (uint64, api.Errno) {
	var n uint64
	most := r.rest[:min(len(r.rest), maxGroups)]
	for i, c := range most {
		n |= uint64(c&127) << (7 * i)
		if c < 128 {
			// A last group 0 is not necessary, and the tenth one has room for a single bit.
			if i > 0 && c == 0 || i == maxGroups-1 && c > 1 {
				return 0, api.ErrForm
			}
			r.rest = r.rest[i+1:]
			return n, api.OK
		}
	}
	if len(most) < maxGroups {
		return 0, api.ErrMore
	}
	return 0, api.ErrForm
}

// counted reads the number of elements, which is at most limit, and the elements, each of so many bytes.
func (r *reader) counted(limit uint64, bytes int) ([]byte, api.Errno) {
	n, e := r.groups()
	if e != api.OK {
		return nil, e
	}
	if n > limit {
		return nil, api.ErrLong
	}
	return r.take(int(n) * bytes)
}
