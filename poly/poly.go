// Package poly: polynomials over GF(2), each an integer whose bit i is the
// coefficient of x^i: see doc/01-poly.md.
package poly

import (
	"math/bits"

	"woolsack/api"
)

// maxDegree is the greatest degree of a polynomial.
const maxDegree = 30

// Check answers ErrArg if a is not a polynomial.
func Check(a int) api.Errno {
	if a < 0 || a > api.MaxPoly {
		return api.ErrArg
	}
	return api.OK
}

// Deg answers the degree of a, which is -1 for the polynomial 0.
func Deg(a int) (int, api.Errno) {
	if e := Check(a); e != api.OK {
		return 0, e
	}
	return degree(uint64(a)), api.OK
}

// Add answers the sum of a and b.
func Add(a, b int) (int, api.Errno) {
	if e := checkAll(a, b); e != api.OK {
		return 0, e
	}
	return a ^ b, api.OK
}

// Mul answers the product of a and b, if it is a polynomial.
func Mul(a, b int) (int, api.Errno) {
	if e := checkAll(a, b); e != api.OK {
		return 0, e
	}
	p := product(uint64(a), uint64(b))
	if degree(p) > maxDegree {
		return 0, api.ErrLarge
	}
	return int(p), api.OK
}

// Div answers the quotient and the remainder of a by b.
func Div(a, b int) (int, int, api.Errno) {
	if e := checkAll(a, b); e != api.OK {
		return 0, 0, e
	}
	if b == 0 {
		return 0, 0, api.ErrZero
	}
	q, r := divide(uint64(a), uint64(b))
	return int(q), int(r), api.OK
}

// Gcd answers the greatest common divisor of a and b.
func Gcd(a, b int) (int, api.Errno) {
	if e := checkAll(a, b); e != api.OK {
		return 0, e
	}
	x, y := uint64(a), uint64(b)
	for y != 0 {
		x, y = y, remainder(x, y)
	}
	return int(x), api.OK
}

// ModMul answers the remainder by m of the product of a and b.
func ModMul(a, b, m int) (int, api.Errno) {
	if e := checkAll(a, b, m); e != api.OK {
		return 0, e
	}
	if m == 0 {
		return 0, api.ErrZero
	}
	return int(remainder(product(uint64(a), uint64(b)), uint64(m))), api.OK
}

// ModPow answers the remainder by m of a to the power n.
func ModPow(a, n, m int) (int, api.Errno) {
	if e := checkAll(a, m); e != api.OK {
		return 0, e
	}
	if n < 0 {
		return 0, api.ErrArg
	}
	if m == 0 {
		return 0, api.ErrZero
	}
	return int(power(uint64(a), n, uint64(m))), api.OK
}

// checkAll answers the error of the first one that is not a polynomial.
func checkAll(all ...int) api.Errno {
	for _, a := range all {
		if e := Check(a); e != api.OK {
			return e
		}
	}
	return api.OK
}

func degree(a uint64) int { return bits.Len64(a) - 1 }

// product has a degree of at most 60, as its factors are polynomials: no bit
// of it is lost.
func product(a, b uint64) uint64 {
	p := uint64(0)
	for ; b != 0; b >>= 1 {
		if b&1 == 1 {
			p ^= a
		}
		a <<= 1
	}
	return p
}

// divide ends for each b but 0, as every turn takes the leading bit off the
// rest.
func divide(a, b uint64) (quotient, rest uint64) {
	n := degree(b)
	for shift := degree(a) - n; shift >= 0; shift = degree(a) - n {
		quotient |= 1 << shift
		a ^= b << shift
	}
	return quotient, a
}

func remainder(a, m uint64) uint64 {
	_, r := divide(a, m)
	return r
}

// power squares for each bit of n: n may be too great to count up to.
func power(a uint64, n int, m uint64) uint64 {
	p := remainder(1, m)
	for a = remainder(a, m); n != 0; n >>= 1 {
		if n&1 == 1 {
			p = remainder(product(p, a), m)
		}
		a = remainder(product(a, a), m)
	}
	return p
}
