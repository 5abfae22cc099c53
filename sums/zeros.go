package sums

import "limewash/api"

// matrix says what some bytes 0 make of a register: the element i is what becomes of the bit i. What becomes of several bits is the xor of what becomes of each.
type matrix [32]register

// Zeros returns the crc of any bytes with the crc h, followed by n bytes 0.
func Zeros(h uint32, n int) (uint32, api.Errno) {
	if n < 0 || n > api.MaxSmZeros {
		return 0, api.ErrRange
	}
	return zeros(n).apply(toRegister(h)).crc(), api.OK
}

// Combine returns the crc of bytes with the crc a, followed by n bytes with the crc b.
func Combine(a, b uint32, n int) (uint32, api.Errno) {
	if n < 0 || n > api.MaxSmZeros {
		return 0, api.ErrRange
	}
	// Both crcs that the bytes 0 make of a and of 0 begin and end with the same xor, which falls out of their xor.
	return uint32(zeros(n).apply(register(a))) ^ b, api.OK
}

// zeros returns the matrix of n bytes 0: a power of that of one.
func zeros(n int) matrix {
	var power, square matrix
	for i := range power {
		power[i] = 1 << i
		square[i] = 1 << i
		square[i].add(0)
	}
	for ; n > 0; n >>= 1 {
		if n&1 == 1 {
			power = power.then(square)
		}
		square = square.then(square)
	}
	return power
}

// apply returns what becomes of r.
func (m matrix) apply(r register) register {
	var sum register
	for i := range m {
		if r>>i&1 == 1 {
			sum ^= m[i]
		}
	}
	return sum
}

// then returns the matrix of the bytes of m, followed by those of next.
func (m matrix) then(next matrix) matrix {
	for i := range m {
		m[i] = next.apply(m[i])
	}
	return m
}
