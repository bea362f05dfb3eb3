package print

import (
	"math"
	"strings"
	"testing"

	"woolsack/api"
)

// wrongModuli are numbers that are not moduli.
var wrongModuli = []int{1, 0, -1, -2, math.MinInt, api.MaxPoly + 1, 1 << 32, math.MaxInt}

// moduli are some of every size, irreducible ones and others.
var moduli = []int{2, 3, 4, 5, 6, 7, 128, 255, 256, 257, 283, 1 << 16, api.Small, 1<<24 + 1, 1 << 30, api.Great, api.MaxPoly - 1, api.MaxPoly}

// strs are strings with the edges of bytes and lengths in them.
func strs() []string {
	all := []string{"", "a", "ab", "ba", "\x00", "\x00\x00", "\x80", "\xff", "\x00a", "a\x00", "\xff\xff\xff\xff\xff", "abcdefgh", "é€𐀀"}
	for _, n := range []int{31, 255, 256, 599, 600} {
		all = append(all, mixed(n, n), strings.Repeat("\xff", n), strings.Repeat("\x00", n))
	}
	return all
}

// mixed makes a string of n bytes of all kinds.
func mixed(n, seed int) string {
	b := make([]byte, n)
	x := uint32(seed)*2654435761 + 1
	for i := range b {
		x = x*1664525 + 1013904223
		b[i] = byte(x >> 24)
	}
	return string(b)
}

// bitsOf are the coefficients of a string's polynomial, the highest first.
func bitsOf(s string) []int {
	all := []int{1}
	for i := range len(s) {
		for bit := 7; bit >= 0; bit-- {
			all = append(all, int(s[i]>>bit)&1)
		}
	}
	return all
}

// slowRest divides coefficient by coefficient, the highest first.
func slowRest(coefficients []int, m int) int {
	top := 30
	for (m>>top)&1 == 0 {
		top--
	}
	rest := 0
	for _, c := range coefficients {
		rest = rest<<1 | c
		if (rest>>top)&1 == 1 {
			rest ^= m
		}
	}
	return rest
}

func slowOf(m int, s string) int { return slowRest(bitsOf(s), m) }

// slowShift multiplies a by x^n.
func slowShift(m, a, n int) int {
	all := make([]int, 31+n)
	for i := range 31 {
		all[30-i] = (a >> i) & 1
	}
	return slowRest(all, m)
}

func TestModP11(t *testing.T) {
	for _, m := range moduli {
		if e := Mod(m); e != api.OK {
			t.Error(m, e)
		}
	}
	for _, m := range wrongModuli {
		if e := Mod(m); e != api.ErrArg {
			t.Error(m, e)
		}
	}
}

func TestOfP11(t *testing.T) {
	for _, c := range []struct {
		m    int
		s    string
		want int
	}{
		{256, "a", 97}, {256, "", 1}, {256, "\xff", 255}, {512, "a", 256 + 97}, {512, "\x00", 256},
		{283, "a", 0x7a}, {2, "", 1}, {2, "a", 1}, {2, "b", 0}, {3, "", 1}, {3, "a", 0},
		{api.MaxPoly, "abc", 1<<24 | 'a'<<16 | 'b'<<8 | 'c'},
	} {
		if p, e := Of(c.m, c.s); p != c.want || e != api.OK {
			t.Errorf("%d %q: %d %d", c.m, c.s, p, e)
		}
	}
	for _, m := range moduli {
		for _, s := range strs() {
			if p, e := Of(m, s); p != slowOf(m, s) || e != api.OK {
				t.Fatalf("%d %q: %d %d", m, s, p, e)
			}
		}
	}
}

func TestOfErrorsP11(t *testing.T) {
	long := strings.Repeat("a", api.MaxBytes+1)
	for _, m := range wrongModuli {
		for _, s := range []string{"", "a", long} {
			if p, e := Of(m, s); p != 0 || e != api.ErrArg {
				t.Error(m, len(s), p, e)
			}
		}
	}
	if p, e := Of(api.Small, long); p != 0 || e != api.ErrLarge {
		t.Error(p, e)
	}
	if _, e := Of(api.Small, long[1:]); e != api.OK {
		t.Error(e)
	}
}

func TestJoinP12(t *testing.T) {
	for _, m := range moduli {
		for _, s := range strs() {
			for _, after := range strs() {
				p, e := Join(m, slowOf(m, s), slowOf(m, after), len(after))
				if p != slowOf(m, s+after) || e != api.OK {
					t.Fatalf("%d %q %q: %d %d", m, s, after, p, e)
				}
			}
		}
	}
}

func TestJoinEdgesP12(t *testing.T) {
	for _, c := range [][5]int{
		{7, 3, 3, 0, 3 ^ 3 ^ 1}, {7, 0, 0, 0, 1}, {4, 3, 2, 1, 2}, {512, 256 + 'a', 256 + 'b', 1, 'b' ^ 256},
		{api.Great, 1, 1, 0, 1}, {2, 0, 0, 600, 0}, {2, 1, 1, 600, 1},
	} {
		if p, e := Join(c[0], c[1], c[2], c[3]); p != c[4] || e != api.OK {
			t.Error(c, p, e)
		}
	}
}

func TestJoinErrorsP12(t *testing.T) {
	for _, m := range wrongModuli {
		if p, e := Join(m, 1, 1, 1); p != 0 || e != api.ErrArg {
			t.Error(m, p, e)
		}
		if p, e := Join(m, -1, -1, -1); p != 0 || e != api.ErrArg {
			t.Error(m, p, e)
		}
	}
	for _, c := range [][4]int{
		{7, 4, 0, 1}, {7, 0, 4, 1}, {7, 7, 0, 1}, {7, 0, 8, 1}, {7, -1, 0, 1}, {7, 0, -1, 1},
		{2, 2, 0, 1}, {2, 0, 2, 1}, {3, 2, 0, 1}, {7, math.MinInt, 0, 0}, {7, 0, math.MinInt, 0},
		{api.MaxPoly, 1 << 30, 0, 1}, {api.MaxPoly, 0, 1 << 30, 1},
		{api.MaxPoly, api.MaxPoly + 1, 0, 1}, {api.MaxPoly, 0, math.MaxInt, 1},
		{7, 1, 1, -1}, {7, 1, 1, 601}, {7, 1, 1, math.MinInt}, {7, 1, 1, math.MaxInt},
	} {
		if p, e := Join(c[0], c[1], c[2], c[3]); p != 0 || e != api.ErrArg {
			t.Error(c, p, e)
		}
	}
	for _, c := range [][4]int{{4, 3, 3, 0}, {7, 3, 3, 600}, {2, 1, 1, 0}, {api.MaxPoly, 1<<30 - 1, 1<<30 - 1, 600}} {
		if _, e := Join(c[0], c[1], c[2], c[3]); e != api.OK {
			t.Error(c, e)
		}
	}
}

func TestRollP13(t *testing.T) {
	for _, m := range moduli {
		for _, s := range strs() {
			for _, n := range []int{1, 2, 8, len(s) - 1} {
				if n < 1 || n >= len(s) {
					continue
				}
				rollOver(t, m, s, n)
			}
		}
	}
}

// rollOver takes a window of n bytes over s.
func rollOver(t *testing.T, m int, s string, n int) {
	p := slowOf(m, s[:n])
	for i := n; i < len(s); i++ {
		next, e := Roll(m, p, int(s[i-n]), int(s[i]), n)
		if next != slowOf(m, s[i-n+1:i+1]) || e != api.OK {
			t.Fatalf("%d %q %d %d: %d %d", m, s, n, i, next, e)
		}
		p = next
	}
}

// No window of n bytes need have the fingerprint that is given.
func TestRollAnyPrintP13(t *testing.T) {
	for _, m := range moduli {
		for _, n := range []int{1, 2, 3, 4, 8, 599, 600} {
			for _, p := range []int{0, 1, 2, 5, 200, 1<<16 - 1, 1<<30 - 1} {
				p = slowShift(m, p, 0)
				for _, out := range []int{0, 1, 128, 255} {
					for _, in := range []int{0, 1, 128, 255} {
						want := slowShift(m, p, 8) ^ slowShift(m, 1, 8*n+8) ^ slowShift(m, out, 8*n) ^ slowShift(m, in, 0) ^ slowShift(m, 1, 8*n)
						if got, e := Roll(m, p, out, in, n); got != want || e != api.OK {
							t.Fatal(m, p, out, in, n, got, e)
						}
					}
				}
			}
		}
	}
}

func TestRollErrorsP13(t *testing.T) {
	for _, m := range wrongModuli {
		if p, e := Roll(m, 1, 1, 1, 1); p != 0 || e != api.ErrArg {
			t.Error(m, p, e)
		}
		if p, e := Roll(m, -1, -1, -1, -1); p != 0 || e != api.ErrArg {
			t.Error(m, p, e)
		}
	}
	for _, c := range [][5]int{
		{7, 4, 0, 0, 1}, {7, 7, 0, 0, 1}, {7, -1, 0, 0, 1}, {2, 2, 0, 0, 1}, {7, math.MinInt, 0, 0, 1},
		{api.MaxPoly, 1 << 30, 0, 0, 1}, {api.MaxPoly, api.MaxPoly + 1, 0, 0, 1}, {api.MaxPoly, math.MaxInt, 0, 0, 1},
		{7, 0, -1, 0, 1}, {7, 0, 256, 0, 1}, {7, 0, math.MaxInt, 0, 1}, {7, 0, math.MinInt, 0, 1},
		{7, 0, 0, -1, 1}, {7, 0, 0, 256, 1}, {7, 0, 0, math.MaxInt, 1}, {7, 0, 0, math.MinInt, 1},
		{7, 0, 0, 0, 0}, {7, 0, 0, 0, -1}, {7, 0, 0, 0, 601}, {7, 0, 0, 0, math.MaxInt}, {7, 0, 0, 0, math.MinInt},
	} {
		if p, e := Roll(c[0], c[1], c[2], c[3], c[4]); p != 0 || e != api.ErrArg {
			t.Error(c, p, e)
		}
	}
}
