package field

// number is one of the 256: its bits are the coefficients of a polynomial over 0 and 1, that of x^i in the bit of the value 2^i.
type number uint8

// order is how many numbers there are but 0: any of them, taken so many times, is 1.
const order = 255

// rest is what x^8 is modulo the field's polynomial, 285: what stands in that beside x^8 itself.
const rest number = 285 - 256

// plus is the sum: coefficients are counted modulo 2.
func (a number) plus(b number) number { return a ^ b }

// doubled is the product with x. The bit of x^7 is lost in the shift, and comes back as what x^8 is; as 0 - 1 wraps to all bits, it tells without a branch whether rest counts.
func (a number) doubled() number {
	return (a << 1).plus(rest & -(a >> 7))
}

// times is the product: the sum of a, doubled as often as each bit of b that is set tells.
func (a number) times(b number) number {
	product := number(0)
	for range 8 {
		product = product.plus(a & -(b & 1))
		a, b = a.doubled(), b>>1
	}
	return product
}

// power is a, n times: what each bit of n that is set takes of it, by squaring.
func (a number) power(n uint8) number {
	power := number(1)
	for ; n > 0; n >>= 1 {
		if n&1 > 0 {
			power = power.times(a)
		}
		a = a.times(a)
	}
	return power
}

// leastTimes is the least number of times, 0 or more, that makes of each number but 0 what n times make of it. A remainder has the sign of n, so order is added to it; added to n it might wrap.
func leastTimes(n int) uint8 {
	return uint8((n%order + order) % order)
}
