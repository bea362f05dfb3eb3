package match

import (
	"math"
	"strings"
	"testing"

	"woolsack/api"
)

// mixed makes a string of n bytes, of the given number of kinds.
func mixed(n, kinds, seed int) string {
	b := make([]byte, n)
	x := uint32(seed)*2654435761 + 1
	for i := range b {
		x = x*1664525 + 1013904223
		b[i] = byte(int(x>>24) % kinds)
	}
	return string(b)
}

// slowLongest tries the lengths from the greatest on, and holds whole pieces
// of the string against each other.
func slowLongest(s string, i, window int) (int, int) {
	for n := 64; n >= 1; n-- {
		for d := 1; d <= window; d++ {
			if i-d >= 0 && i+n <= len(s) && s[i:i+n] == s[i-d:i-d+n] {
				return d, n
			}
		}
	}
	return 0, 0
}

func TestLongestExamplesP16(t *testing.T) {
	as := strings.Repeat("a", 600)
	far := "xyz" + strings.Repeat("-", 253) + "xyz"
	for _, c := range []struct {
		s               string
		i, window, d, n int
	}{
		{"ababab", 2, 9, 2, 4},
		{"ababab", 2, 2, 2, 4},
		{"ababab", 2, 1, 0, 0},
		{"ababab", 3, 9, 2, 3},
		{"ababab", 0, 9, 0, 0},
		{"ababab", 1, 9, 0, 0},
		{"ababab", 6, 9, 0, 0},
		{"", 0, 1, 0, 0},
		{"", 0, 256, 0, 0},
		{"aa", 1, 1, 1, 1},
		{"aa", 2, 1, 0, 0},
		{"abca", 3, 3, 3, 1},
		{"abca", 3, 2, 0, 0},
		// The nearest of equally long ones, and the longer one though far.
		{"abxabyab", 6, 256, 3, 2},
		{"abcxabyabc", 7, 256, 7, 3},
		{"abcxabyabc", 7, 6, 3, 2},
		{"abcxabyabd", 7, 256, 3, 2},
		// At most 64 bytes, and none behind the end.
		{as, 1, 256, 1, 64},
		{as, 300, 256, 1, 64},
		{as, 535, 256, 1, 64},
		{as, 536, 256, 1, 64},
		{as, 537, 256, 1, 63},
		{as, 599, 256, 1, 1},
		{as, 600, 256, 0, 0},
		// The window's edge.
		{far, 256, 256, 256, 3},
		{far, 256, 255, 0, 0},
		{"-" + far, 257, 256, 256, 3},
		{"x" + strings.Repeat("-", 256) + "x", 257, 256, 0, 0},
		{"\x00\xff\x00\xff", 2, 9, 2, 2},
	} {
		if d, n, e := Longest(c.s, c.i, c.window); d != c.d || n != c.n || e != api.OK {
			t.Errorf("%q %d %d: %d %d %d", c.s, c.i, c.window, d, n, e)
		}
	}
}

func TestLongestP16(t *testing.T) {
	block := mixed(70, 256, 9)
	strs := []string{"a", "ab", "aab", strings.Repeat("ab", 70), block + mixed(100, 256, 4) + block + "!" + block}
	for kinds := 1; kinds <= 4; kinds++ {
		for _, n := range []int{20, 300} {
			strs = append(strs, mixed(n, kinds, n+kinds))
		}
	}
	for _, s := range strs {
		for i := 0; i <= len(s); i++ {
			for _, window := range []int{1, 2, 3, 7, 63, 64, 65, 170, 255, 256} {
				wd, wn := slowLongest(s, i, window)
				if d, n, e := Longest(s, i, window); d != wd || n != wn || e != api.OK {
					t.Fatalf("%q %d %d: %d %d %d, want %d %d", s, i, window, d, n, e, wd, wn)
				}
			}
		}
	}
}

func TestLongestErrorsP16(t *testing.T) {
	long := strings.Repeat("a", api.MaxBytes+1)
	for _, c := range [][2]int{{1, 1}, {-1, 1}, {602, 1}, {1, 0}, {1, 257}, {math.MinInt, math.MaxInt}} {
		if d, n, e := Longest(long, c[0], c[1]); d != 0 || n != 0 || e != api.ErrLarge {
			t.Error(c, d, n, e)
		}
	}
	for _, c := range []struct {
		s         string
		i, window int
	}{
		{"aaa", -1, 1}, {"aaa", 4, 1}, {"", 1, 1}, {"", -1, 1}, {"aaa", math.MinInt, 1}, {"aaa", math.MaxInt, 1},
		{"aaa", 1, 0}, {"aaa", 1, -1}, {"aaa", 1, 257}, {"aaa", 1, math.MinInt}, {"aaa", 1, math.MaxInt},
		{"", 0, 0}, {"", 0, 257}, {"aaa", -1, 0}, {"aaa", 4, 257}, {long[1:], 601, 1}, {long[1:], 0, 0},
	} {
		if d, n, e := Longest(c.s, c.i, c.window); d != 0 || n != 0 || e != api.ErrArg {
			t.Error(c, d, n, e)
		}
	}
}
