package sums

import "limewash/api"

// halves are the numbers A and B of a mix.
type halves struct{ a, b uint64 }

// Mix returns the mix of b.
func Mix(b []byte) uint64 {
	m := halves{a: 1}
	each(b, m.add)
	return m.mix()
}

// MixOn returns the mix of any bytes with the mix h, followed by b.
func MixOn(h uint64, b []byte) (uint64, api.Errno) {
	m, ok := toHalves(h)
	if !ok {
		return 0, api.ErrForm
	}
	each(b, m.add)
	return m.mix(), api.OK
}

// Roll returns the mix of n bytes, of which the first one, out, is taken away, and in is put behind the last one, if the mix was h.
func Roll(h uint64, n int, out, in byte) (uint64, api.Errno) {
	m, ok := toHalves(h)
	if !ok {
		return 0, api.ErrForm
	}
	if n < 1 || n > api.MaxSmZeros {
		return 0, api.ErrRange
	}
	// What is taken away is less than the prime, so that no difference is below 0.
	m.a = (m.a + uint64(in) + api.SmPrime - uint64(out)) % api.SmPrime
	m.b = (m.b + m.a + api.SmPrime - uint64(n)*uint64(out) - 1) % api.SmPrime
	return m.mix(), api.OK
}

// toHalves returns the numbers of which h is the mix, and whether it is one.
func toHalves(h uint64) (halves, bool) {
	m := halves{a: h & (1<<32 - 1), b: h >> 32}
	return m, m.a < api.SmPrime && m.b < api.SmPrime
}

// mix is the mix with the numbers of m.
func (m halves) mix() uint64 {
	return m.b<<32 + m.a
}

// add goes on with the byte c.
func (m *halves) add(c byte) {
	m.a = (m.a + uint64(c)) % api.SmPrime
	m.b = (m.b + m.a) % api.SmPrime
}
