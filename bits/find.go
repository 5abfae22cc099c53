package bits

import "limewash/api"

// Next returns the least place of a bit v, from from on.
func (m *Map) Next(from int, v bool) (int, api.Errno) {
	return m.Run(from, 1, v)
}

// Last returns the greatest place of a bit v below before.
func (m *Map) Last(before int, v bool) (int, api.Errno) {
	if e := m.checkPlace(before); e != api.OK {
		return 0, e
	}
	for i := before - 1; i >= 0; i-- {
		if m.at(i) == v {
			return i, api.OK
		}
	}
	return 0, api.ErrNone
}

// Run returns the least place of n bits v, from from on.
func (m *Map) Run(from, n int, v bool) (int, api.Errno) {
	if e := m.checkPlace(from); e != api.OK {
		return 0, e
	}
	if n < 1 {
		return 0, api.ErrArg
	}
start:
	for i := from; i <= m.n-n; i++ {
		for j := i + n - 1; j >= i; j-- {
			if m.at(j) != v {
				// A run that begins before j or at j would include it.
				i = j
				continue start
			}
		}
		return i, api.OK
	}
	return 0, api.ErrNone
}
