// Package poly: polynomials over the field: see doc/02-poly.md.
package poly

import (
	"slices"

	"supercargo/api"
	"supercargo/field"
)

// Trim: p without the noughts at its end.
func Trim(p []byte) []byte {
	for i, factor := range slices.Backward(p) {
		if factor != 0 {
			return slices.Clone(p[:i+1])
		}
	}
	return nil
}

// Value: what p is at x.
func Value(p []byte, x byte) byte {
	value := byte(0)
	for _, factor := range slices.Backward(p) {
		value = field.Mul(value, x) ^ factor
	}
	return value
}

// Mul: the product of p and q, trimmed; ErrMany, if one of both is too long.
func Mul(p, q []byte) ([]byte, api.Errno) {
	if e := check(p, q); e != api.OK {
		return nil, e
	}
	return product(p, q), api.OK
}

// Divide: quotient and rest of p by q, both trimmed; ErrMany as of Mul; ErrNone, if q is 0.
func Divide(p, q []byte) ([]byte, []byte, api.Errno) {
	if e := check(p, q); e != api.OK {
		return nil, nil, e
	}
	by := Trim(q)
	if len(by) == 0 {
		return nil, nil, api.ErrNone
	}
	quotient, rest := divide(p, by)
	return Trim(quotient), Trim(rest), api.OK
}

// Meet: the polynomial that has the values ys at the places xs, with no more factors than there are places, trimmed; ErrMany, if there are too many places; ErrForm, if there are not as many values; ErrTwice, if two places are the same.
func Meet(xs, ys []byte) ([]byte, api.Errno) {
	if e := check(xs); e != api.OK {
		return nil, e
	}
	if len(xs) != len(ys) {
		return nil, api.ErrForm
	}
	met := make([]byte, len(xs))
	gone := []byte{1} // 0 at the places that were met, and at no other one
	for i, x := range xs {
		factor, e := field.Divide(ys[i]^Value(met, x), Value(gone, x))
		if e != api.OK { // gone is 0 at x: x was met before
			return nil, api.ErrTwice
		}
		addTimes(met, gone, factor)
		gone = product(gone, []byte{x, 1})
	}
	return Trim(met), api.OK
}

// check: ErrMany, if one of the lists is longer than MaxList. Noughts at its end count.
func check(lists ...[]byte) api.Errno {
	long := func(list []byte) bool { return len(list) > api.MaxList }
	if slices.ContainsFunc(lists, long) {
		return api.ErrMany
	}
	return api.OK
}

// product of p and q, trimmed, of whatever lengths.
func product(p, q []byte) []byte {
	out := make([]byte, len(p)+len(q))
	for i, factor := range p {
		addTimes(out[i:], q, factor)
	}
	return Trim(out)
}

// divide p by a list that is trimmed and not empty: so its last factor is not 0 and has an inverse.
func divide(p, by []byte) (quotient, rest []byte) {
	quotient, rest = make([]byte, len(p)), slices.Clone(p)
	top := len(by) - 1
	inverse, _ := field.Inverse(by[top])
	for i := range slices.Backward(rest) {
		if i < top {
			break
		}
		factor := field.Mul(rest[i], inverse)
		quotient[i-top] = factor
		addTimes(rest[i-top:], by, factor)
	}
	return quotient, rest
}

// addTimes adds p times factor to sum, which is at least as long as p. As a sum is xor, it takes away, too.
func addTimes(sum, p []byte, factor byte) {
	for i, one := range p {
		sum[i] ^= field.Mul(one, factor)
	}
}
