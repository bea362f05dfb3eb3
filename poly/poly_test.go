package poly

import (
	"math"
	"testing"

	"woolsack/api"
)

// wrong are numbers that are not polynomials.
var wrong = []int{-1, math.MinInt, math.MinInt + 1, api.MaxPoly + 1, 1 << 32, math.MaxInt}

// edges are polynomials at the ends and around the places where a width runs out.
var edges = []int{0, 1, 2, 3, 7, 1<<15 - 1, 1 << 15, 1<<16 - 1, 1 << 16, api.Small, 1 << 30, api.Great, api.MaxPoly - 1, api.MaxPoly}

// slowProduct multiplies coefficient by coefficient.
func slowProduct(a, b int) []int {
	p := make([]int, 62)
	for i := range 31 {
		for j := range 31 {
			p[i+j] ^= (a >> i) & (b >> j) & 1
		}
	}
	return p
}

// slowMod takes the remainder of a list of coefficients by m, which is not 0.
func slowMod(p []int, m int) int {
	top := 30
	for (m>>top)&1 == 0 {
		top--
	}
	p = append([]int(nil), p...)
	for i := len(p) - 1; i >= top; i-- {
		if p[i] == 0 {
			continue
		}
		for j := range top + 1 {
			p[i-top+j] ^= (m >> j) & 1
		}
	}
	return number(p[:top])
}

func number(p []int) int {
	n := 0
	for i, c := range p {
		n |= c << i
	}
	return n
}

func slowDegree(p []int) int {
	for i := len(p) - 1; i >= 0; i-- {
		if p[i] == 1 {
			return i
		}
	}
	return -1
}

// some are edges and scattered polynomials, of all degrees.
func some() []int {
	l := append([]int(nil), edges...)
	x := uint32(12345)
	for i := range 60 {
		x = x*1664525 + 1013904223
		l = append(l, int(x>>1)>>(i%31))
	}
	return l
}

func TestCheckP3(t *testing.T) {
	for _, a := range some() {
		if e := Check(a); e != api.OK {
			t.Fatal(a, e)
		}
	}
	for _, a := range wrong {
		if e := Check(a); e != api.ErrArg {
			t.Fatal(a, e)
		}
	}
}

// pairCalls are the calls that take two polynomials and answer one number.
func pairCalls() map[string]func(a, b int) (int, api.Errno) {
	return map[string]func(a, b int) (int, api.Errno){
		"Add": Add, "Mul": Mul, "Gcd": Gcd,
		"Div":              func(a, b int) (int, api.Errno) { q, r, e := Div(a, b); return q | r, e },
		"ModMul, m wrong":  func(a, b int) (int, api.Errno) { return ModMul(1, a, b) },
		"ModMul, b wrong":  func(a, b int) (int, api.Errno) { return ModMul(a, b, 7) },
		"ModMul by 0":      func(a, b int) (int, api.Errno) { return ModMul(a, b, 0) },
		"ModPow":           func(a, b int) (int, api.Errno) { return ModPow(a, 3, b) },
		"ModPow, n wrong":  func(a, b int) (int, api.Errno) { return ModPow(a, -1, b) },
		"ModPow, n 0":      func(a, b int) (int, api.Errno) { return ModPow(a, 0, b) },
		"ModPow, n utmost": func(a, b int) (int, api.Errno) { return ModPow(a, math.MaxInt, b) },
	}
}

func TestWrongPolynomialsP1P3(t *testing.T) {
	for _, w := range wrong {
		if d, e := Deg(w); d != 0 || e != api.ErrArg {
			t.Fatal("Deg", w, d, e)
		}
		for name, call := range pairCalls() {
			for _, a := range append([]int{0, 1, 6, api.MaxPoly}, wrong...) {
				if x, e := call(a, w); x != 0 || e != api.ErrArg {
					t.Fatal(name, a, w, x, e)
				}
				if x, e := call(w, a); x != 0 || e != api.ErrArg {
					t.Fatal(name, w, a, x, e)
				}
			}
		}
	}
}

func TestDegP4(t *testing.T) {
	if d, e := Deg(0); d != -1 || e != api.OK {
		t.Error(d, e)
	}
	for i := range 31 {
		for _, a := range []int{1 << i, 1<<(i+1) - 1, 1<<i | 1<<(i/2)} {
			if d, e := Deg(a); d != i || e != api.OK {
				t.Fatal(a, d, e)
			}
		}
	}
}

func TestAddP5(t *testing.T) {
	for _, c := range [][3]int{{6, 5, 3}, {0, 0, 0}, {0, 9, 9}, {9, 9, 0}, {api.MaxPoly, 1, api.MaxPoly - 1}, {1 << 30, 1 << 30, 0}} {
		if s, e := Add(c[0], c[1]); s != c[2] || e != api.OK {
			t.Fatal(c, s, e)
		}
	}
}

func TestMulP5(t *testing.T) {
	if p, e := Mul(7, 5); p != 27 || e != api.OK {
		t.Error(p, e)
	}
	if p, e := Mul(1<<15, 1<<15); p != 1<<30 || e != api.OK {
		t.Error(p, e)
	}
	for _, a := range some() {
		for _, b := range some() {
			slow := slowProduct(a, b)
			want, wantErr := number(slow), api.OK
			if slowDegree(slow) > 30 {
				want, wantErr = 0, api.ErrLarge
			}
			if p, e := Mul(a, b); p != want || e != wantErr {
				t.Fatal(a, b, p, e, want, wantErr)
			}
		}
	}
}

func TestMulTooLargeP5(t *testing.T) {
	for _, c := range [][2]int{{1 << 30, 2}, {2, 1 << 30}, {1 << 16, 1 << 15}, {api.MaxPoly, api.MaxPoly}, {api.MaxPoly, 3}} {
		if p, e := Mul(c[0], c[1]); p != 0 || e != api.ErrLarge {
			t.Fatal(c, p, e)
		}
	}
	if p, e := Mul(api.MaxPoly, 0); p != 0 || e != api.OK {
		t.Error(p, e)
	}
	if p, e := Mul(1, api.MaxPoly); p != api.MaxPoly || e != api.OK {
		t.Error(p, e)
	}
}

func TestDivP6(t *testing.T) {
	if q, r, e := Div(27, 6); q != 4 || r != 3 || e != api.OK {
		t.Error(q, r, e)
	}
	for _, a := range some() {
		for _, b := range some() {
			q, r, e := Div(a, b)
			if b == 0 {
				if q != 0 || r != 0 || e != api.ErrZero {
					t.Fatal(a, b, q, r, e)
				}
				continue
			}
			back := number(slowProduct(q, b)) ^ r
			if e != api.OK || back != a || r != slowMod(slowProduct(r, 1), b) {
				t.Fatal(a, b, q, r, e)
			}
		}
	}
}

// divides tells whether d divides a, by the slow remainder.
func divides(d, a int) bool {
	if d == 0 {
		return a == 0
	}
	return slowMod(slowProduct(a, 1), d) == 0
}

func TestGcdSmallP6(t *testing.T) {
	for a := range 64 {
		for b := range 64 {
			want := 0
			// Of two divisors the one of greater degree is the greater number.
			for d := 1; d < 64 && a|b != 0; d++ {
				if divides(d, a) && divides(d, b) {
					want = d
				}
			}
			if g, e := Gcd(a, b); g != want || e != api.OK {
				t.Fatal(a, b, g, e, want)
			}
		}
	}
}

func TestGcdP6(t *testing.T) {
	for _, c := range [][3]int{{6, 5, 3}, {0, 0, 0}, {0, api.MaxPoly, api.MaxPoly}, {api.MaxPoly, 0, api.MaxPoly}, {api.Great, api.MaxPoly, 1}, {1 << 30, 1 << 16, 1 << 16}} {
		if g, e := Gcd(c[0], c[1]); g != c[2] || e != api.OK {
			t.Fatal(c, g, e)
		}
	}
	for _, a := range some() {
		for _, b := range some() {
			g, e := Gcd(a, b)
			if h, _ := Gcd(b, a); e != api.OK || h != g || !divides(g, a) || !divides(g, b) {
				t.Fatal(a, b, g, h, e)
			}
		}
	}
}

func TestModMulP7(t *testing.T) {
	for _, a := range some() {
		for _, b := range some() {
			p := slowProduct(a, b)
			for _, m := range edges[1:] {
				if x, e := ModMul(a, b, m); x != slowMod(p, m) || e != api.OK {
					t.Fatal(a, b, m, x, e)
				}
			}
			if x, e := ModMul(a, b, 0); x != 0 || e != api.ErrZero {
				t.Fatal(a, b, x, e)
			}
		}
	}
}

func TestModPowP7(t *testing.T) {
	if x, e := ModPow(2, 3, 7); x != 1 || e != api.OK {
		t.Error(x, e)
	}
	for _, a := range some() {
		for _, m := range edges[1:] {
			want := slowMod(slowProduct(1, 1), m)
			for n := range 20 {
				if x, e := ModPow(a, n, m); x != want || e != api.OK {
					t.Fatal(a, n, m, x, e, want)
				}
				want = slowMod(slowProduct(want, a), m)
			}
		}
	}
}

// The nonzero remainders by an irreducible modulus of degree 30 are a group of
// 2^30 - 1 elements, which tells what great powers are.
func TestModPowGreatExponentsP7(t *testing.T) {
	order := 1<<30 - 1
	for _, a := range []int{2, 3, 12345, api.MaxPoly} {
		if x, e := ModPow(a, order, api.Great); x != 1 || e != api.OK {
			t.Fatal(a, x, e)
		}
		want, _ := ModPow(a, math.MaxInt%order, api.Great)
		if x, e := ModPow(a, math.MaxInt, api.Great); x != want || e != api.OK {
			t.Fatal(a, x, e, want)
		}
	}
}

func TestModPowErrorsP7(t *testing.T) {
	for _, c := range []struct {
		a, n, m int
		want    api.Errno
	}{
		{2, -1, 7, api.ErrArg},
		{2, math.MinInt, 7, api.ErrArg},
		{2, -1, 0, api.ErrArg},
		{-1, 3, 0, api.ErrArg},
		{2, 3, -1, api.ErrArg},
		{2, 3, 0, api.ErrZero},
		{0, 0, 0, api.ErrZero},
	} {
		if x, e := ModPow(c.a, c.n, c.m); x != 0 || e != c.want {
			t.Fatal(c, x, e)
		}
	}
	if x, e := ModPow(5, 0, 1); x != 0 || e != api.OK {
		t.Error(x, e)
	}
	if x, e := ModPow(0, 0, 2); x != 1 || e != api.OK {
		t.Error(x, e)
	}
}
