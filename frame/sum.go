package frame

import "storehouse/api"

// taps are the bits that CRC-32C turns when a bit leaves the register.
const taps = 0x82F63B78

// register is a sum on its way: not turned, as a sum is at its beginning and at its end.
type register uint32

// take goes on with a byte. What is taken bit by bit may as well come in at once: a bit counts only when it is the lowest one.
func (r register) take(c byte) register {
	r ^= register(c)
	for range 8 {
		leaves := r & 1
		r >>= 1
		if leaves != 0 {
			r ^= taps
		}
	}
	return r
}

// Sum is a text's CRC-32C.
func Sum(s string) uint32 { return More(0, s) }

// More is the sum of a text that goes on: sum is that of what stands ahead of s.
func More(sum uint32, s string) uint32 {
	r := register(^sum)
	for i := range len(s) {
		r = r.take(s[i])
	}
	return ^uint32(r)
}

// Join is the sum of two texts by theirs: n is how many bytes the second one has.
func Join(a uint32, b uint32, n int) uint32 {
	if n < 0 || n > api.MaxRecord {
		return 0
	}
	r := register(a)
	for range n {
		r = r.take(0)
	}
	return uint32(r) ^ b
}
