package bits

import "limewash/api"

// And returns a map of the bits that are true in both maps.
func (m *Map) And(o *Map) (*Map, api.Errno) {
	return m.combine(o, func(a, b uint64) uint64 { return a & b })
}

// Or returns a map of the bits that are true in at least one map.
func (m *Map) Or(o *Map) (*Map, api.Errno) {
	return m.combine(o, func(a, b uint64) uint64 { return a | b })
}

// Xor returns a map of the bits that are true in just one map.
func (m *Map) Xor(o *Map) (*Map, api.Errno) {
	return m.combine(o, func(a, b uint64) uint64 { return a ^ b })
}

// Not returns a map with the other bits.
func (m *Map) Not() (*Map, api.Errno) {
	if !m.made() {
		return nil, api.ErrNil
	}
	c := empty(m.n)
	for i := range m.n {
		c.put(i, !m.at(i))
	}
	return c, api.OK
}

// Same reports whether both maps have the same bits.
func (m *Map) Same(o *Map) bool {
	return m.made() && o.made() && m.n == o.n && m.bits == o.bits
}

// combine returns a map whose words are those that f returns for the words of both maps; f must turn 0 and 0 into 0.
func (m *Map) combine(o *Map, f func(a, b uint64) uint64) (*Map, api.Errno) {
	if !m.made() || !o.made() {
		return nil, api.ErrNil
	}
	if m.n != o.n {
		return nil, api.ErrArg
	}
	c := empty(m.n)
	for i := range c.bits {
		c.bits[i] = f(m.bits[i], o.bits[i])
	}
	return c, api.OK
}
