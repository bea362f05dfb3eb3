// Package prime: irreducible polynomials over GF(2): see doc/02-prime.md.
package prime

import (
	"woolsack/api"
	"woolsack/poly"
)

// maxDegree is the greatest degree of a polynomial.
const maxDegree = 30

// Is tells whether m is irreducible.
func Is(m int) (bool, api.Errno) {
	if e := poly.Check(m); e != api.OK {
		return false, e
	}
	return irreducible(m), api.OK
}

// Next answers the smallest irreducible polynomial that is at least m.
func Next(m int) (int, api.Errno) {
	if e := poly.Check(m); e != api.OK {
		return 0, e
	}
	for ; m <= api.MaxPoly; m++ {
		if irreducible(m) {
			return m, api.OK
		}
	}
	return 0, api.ErrNone
}

// Count answers how many irreducible polynomials of degree n there are.
func Count(n int) (int, api.Errno) {
	if n < 1 || n > maxDegree {
		return 0, api.ErrArg
	}
	return count(n), api.OK
}

// Factors answers the irreducible polynomials whose product is m.
func Factors(m int) ([]int, api.Errno) {
	if e := poly.Check(m); e != api.OK {
		return nil, e
	}
	if m == 0 {
		return nil, api.ErrZero
	}
	var factors []int
	// Nothing below a factor divides what is left, so the search goes on
	// from there, and the factors come in ascending order.
	for f := 2; m > 1; {
		f = leastFactor(m, f)
		factors = append(factors, f)
		m, _, _ = poly.Div(m, f)
	}
	return factors, api.OK
}

func irreducible(m int) bool {
	return m > 1 && leastFactor(m, 2) == m
}

// leastFactor answers the smallest divisor of m but 1, for an m above 1 that
// nothing from 2 to just below from divides. It is irreducible: a divisor of
// it would be of smaller degree, hence smaller. If m has a divisor of degree
// 1 or more beside itself, it has one of at most half its degree.
func leastFactor(m, from int) int {
	degree, _ := poly.Deg(m)
	end := 1 << (degree/2 + 1)
	for d := from; d < end; d++ {
		if _, r, _ := poly.Div(m, d); r == 0 {
			return d
		}
	}
	return m
}

// count takes what Gauss found: x^(2^n) + x is the product of all irreducible
// polynomials whose degree divides n, so their degrees add up to 2^n.
func count(n int) int {
	left := 1 << n
	for d := 1; d < n; d++ {
		if n%d == 0 {
			left -= d * count(d)
		}
	}
	return left / n
}
