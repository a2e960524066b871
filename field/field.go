// Package field: a field of 256: see doc/01-field.md.
package field

import "supercargo/api"

// order is how many powers of x differ: all bytes but 0.
const order = 255

// x as a byte: its one bit is the factor of x^1.
const x = 2

// overflow is the bit of x^8, which no byte has.
const overflow = 0x100

// Mul: the product of a and b, by the rest of api.Poly.
// It reckons bit by bit, as the table of powers is made of it.
func Mul(a, b byte) byte {
	product, shifted := 0, int(a)
	for ; b != 0; b >>= 1 {
		if b&1 != 0 {
			product ^= shifted
		}
		shifted <<= 1
		if shifted&overflow != 0 {
			shifted ^= api.Poly
		}
	}
	return byte(product)
}

// Power: x times itself n times; of n below 0 the inverse of the one of -n.
func Power(n int) byte {
	all := powers()
	return all[turn(n)]
}

// Log: the n from 0 to 254 of which Power is a; ErrNone of 0.
func Log(a byte) (int, api.Errno) {
	if a == 0 {
		return 0, api.ErrNone
	}
	all := logs()
	return all[a], api.OK
}

// Inverse: that by which a makes 1; ErrNone of 0.
func Inverse(a byte) (byte, api.Errno) {
	n, e := Log(a)
	if e != api.OK {
		return 0, e
	}
	return Power(-n), api.OK
}

// Divide: that which, times b, is a; ErrNone, if b is 0.
func Divide(a, b byte) (byte, api.Errno) {
	inverse, e := Inverse(b)
	if e != api.OK {
		return 0, e
	}
	return Mul(a, inverse), api.OK
}

// turn brings n to its place among the powers, which come round after order.
// The rest is taken first: -n of the least int would wrap round.
func turn(n int) int {
	n %= order
	if n < 0 {
		n += order
	}
	return n
}

// powers: at place n, x times itself n times.
func powers() [order]byte {
	var all [order]byte
	p := byte(1)
	for n := range all {
		all[n] = p
		p = Mul(p, x)
	}
	return all
}

// logs: at place a, the n of which the power is a. Place 0 tells nothing, as 0 is no power.
func logs() [order + 1]int {
	var all [order + 1]int
	for n, p := range powers() {
		all[p] = n
	}
	return all
}
