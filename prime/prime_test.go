package prime

import (
	"math"
	"slices"
	"testing"

	"woolsack/api"
	"woolsack/poly"
)

// wrong are numbers that are not polynomials.
var wrong = []int{-1, math.MinInt, api.MaxPoly + 1, math.MaxInt}

// last is the greatest irreducible polynomial up to MaxPoly.
const last = 2147483533

// sieved tells for each polynomial of degree 12 or less whether it is
// irreducible, by striking out all products.
func sieved() []bool {
	const end = 1 << 13
	is := make([]bool, end)
	for m := 2; m < end; m++ {
		is[m] = true
	}
	for a := 2; a < end; a++ {
		for b := 2; b <= a; b++ {
			p, _ := poly.Mul(a, b)
			if p >= end {
				break
			}
			is[p] = false
		}
	}
	return is
}

func TestIsP8(t *testing.T) {
	for m, want := range sieved() {
		if is, e := Is(m); is != want || e != api.OK {
			t.Fatal(m, is, e)
		}
	}
}

func TestIsGreatP8(t *testing.T) {
	for _, m := range []int{api.Small, 65579, api.Great, last} {
		if is, e := Is(m); !is || e != api.OK {
			t.Fatal(m, is, e)
		}
	}
	// Two irreducible factors of equal degree are the hardest to find.
	half, _ := Next(1 << 15)
	square, _ := poly.Mul(half, half)
	for _, m := range []int{square, api.Small ^ 1, 1 << 30, api.MaxPoly, api.MaxPoly - 1} {
		if is, e := Is(m); is || e != api.OK {
			t.Fatal(m, is, e)
		}
	}
}

func TestNextP8(t *testing.T) {
	is := sieved()
	want := 0
	for m := len(is) - 1; m >= 0; m-- {
		if is[m] {
			want = m
		}
		if want == 0 {
			continue
		}
		if p, e := Next(m); p != want || e != api.OK {
			t.Fatal(m, p, e, want)
		}
	}
}

func TestNextGreatP8(t *testing.T) {
	for _, c := range [][2]int{{65536, 65579}, {65580, api.Small}, {api.Great, api.Great}, {last, last}, {last - 1, last}} {
		if p, e := Next(c[0]); p != c[1] || e != api.OK {
			t.Fatal(c, p, e)
		}
	}
	for _, m := range []int{last + 1, api.MaxPoly - 1, api.MaxPoly} {
		if p, e := Next(m); p != 0 || e != api.ErrNone {
			t.Fatal(m, p, e)
		}
	}
}

func TestCountP9(t *testing.T) {
	counted := make([]int, 13)
	for m, is := range sieved() {
		if is {
			d, _ := poly.Deg(m)
			counted[d]++
		}
	}
	for n := 1; n < len(counted); n++ {
		if k, e := Count(n); k != counted[n] || e != api.OK {
			t.Fatal(n, k, e, counted[n])
		}
	}
	for _, c := range [][2]int{{16, 4080}, {24, 698870}, {29, 18512790}, {30, 35790267}} {
		if k, e := Count(c[0]); k != c[1] || e != api.OK {
			t.Fatal(c, k, e)
		}
	}
	for _, n := range []int{0, -1, 31, math.MinInt, math.MaxInt} {
		if k, e := Count(n); k != 0 || e != api.ErrArg {
			t.Fatal(n, k, e)
		}
	}
}

func TestFactorsP10(t *testing.T) {
	is := sieved()
	for m := 1; m < len(is); m++ {
		factors, e := Factors(m)
		if e != api.OK || !slices.IsSorted(factors) {
			t.Fatal(m, factors, e)
		}
		product := 1
		for _, f := range factors {
			if !is[f] {
				t.Fatal(m, factors)
			}
			product, _ = poly.Mul(product, f)
		}
		if product != m {
			t.Fatal(m, factors)
		}
	}
}

func TestFactorsEdgesP10(t *testing.T) {
	half, _ := Next(1 << 15)
	square, _ := poly.Mul(half, half)
	for _, c := range []struct {
		m    int
		want []int
	}{
		{1, nil},
		{2, []int{2}},
		{27, []int{3, 3, 7}},
		{1 << 30, slices.Repeat([]int{2}, 30)},
		{square, []int{half, half}},
		{api.Great, []int{api.Great}},
		{api.MaxPoly, []int{37, 41, 47, 55, 59, 61}},
	} {
		if l, e := Factors(c.m); !slices.Equal(l, c.want) || e != api.OK {
			t.Fatal(c, l, e)
		}
	}
	if l, e := Factors(0); len(l) != 0 || e != api.ErrZero {
		t.Error(l, e)
	}
}

func TestFactorsAreNewMemoryP2(t *testing.T) {
	one, _ := Factors(27)
	for i := range one[:cap(one)] {
		one[:cap(one)][i] = -1
	}
	if two, e := Factors(27); !slices.Equal(two, []int{3, 3, 7}) || e != api.OK {
		t.Error(two, e)
	}
}

func TestWrongPolynomialsP1(t *testing.T) {
	for _, m := range wrong {
		if is, e := Is(m); is || e != api.ErrArg {
			t.Fatal(m, is, e)
		}
		if p, e := Next(m); p != 0 || e != api.ErrArg {
			t.Fatal(m, p, e)
		}
		if l, e := Factors(m); len(l) != 0 || e != api.ErrArg {
			t.Fatal(m, l, e)
		}
	}
}
