package lz

import (
	"math"
	"slices"
	"strings"
	"testing"

	"woolsack/api"
)

// mixed makes a string of n bytes, of the given number of kinds.
func mixed(n, kinds, seed int) string {
	b := make([]byte, n)
	x := uint32(seed)*2654435761 + 1
	for i := range b {
		x = x*1664525 + 1013904223
		b[i] = byte(int(x>>24) % kinds)
	}
	return string(b)
}

func strs() []string {
	all := []string{"", "a", "aa", "ababab", "\x00", "\x00\x00\xff", strings.Repeat("a", 600), strings.Repeat("abc", 200)}
	for _, kinds := range []int{1, 2, 3, 4, 16, 256} {
		for _, n := range []int{10, 599, 600} {
			all = append(all, mixed(n, kinds, n+kinds))
		}
	}
	block := mixed(100, 256, 7)
	return append(all, block+mixed(156, 256, 8)+block, block+mixed(157, 256, 8)+block)
}

// slowLongest tries the lengths from the greatest on.
func slowLongest(s string, i, window int) (int, int) {
	for n := min(64, len(s)-i); n >= 1; n-- {
		for d := 1; d <= min(i, window); d++ {
			if s[i:i+n] == s[i-d:i-d+n] {
				return d, n
			}
		}
	}
	return 0, 0
}

func slowParse(s string, window int) []api.Token {
	var l []api.Token
	i := 0
	for i < len(s) {
		d, n := slowLongest(s, i, window)
		if n >= 2 {
			l = append(l, api.Token{Dist: d, Len: n})
			i += n
		} else {
			l = append(l, api.Token{Byte: int(s[i])})
			i++
		}
	}
	return l
}

func lit(s string) []api.Token {
	var l []api.Token
	for i := range len(s) {
		l = append(l, api.Token{Byte: int(s[i])})
	}
	return l
}

// times lists t n times.
func times(t api.Token, n int) []api.Token {
	return slices.Repeat([]api.Token{t}, n)
}

func TestParseExamplesP17(t *testing.T) {
	for _, c := range []struct {
		s      string
		window int
		want   []api.Token
	}{
		{"ababab", 9, append(lit("ab"), api.Token{Dist: 2, Len: 4})},
		{"ababab", 2, append(lit("ab"), api.Token{Dist: 2, Len: 4})},
		{"ababab", 1, lit("ababab")},
		{"", 1, nil},
		{"", 256, nil},
		{"a", 1, lit("a")},
		// A match of one byte is no copy, one of two bytes is.
		{"aa", 1, lit("aa")},
		{"aaa", 1, append(lit("a"), api.Token{Dist: 1, Len: 2})},
		{"abca", 9, lit("abca")},
		{"abcab", 9, append(lit("abc"), api.Token{Dist: 3, Len: 2})},
		// The nearest of equally long ones.
		{"abxabyab", 9, append(append(lit("abx"), api.Token{Dist: 3, Len: 2}), append(lit("y"), api.Token{Dist: 3, Len: 2})...)},
		// Greedily: the longest match first, even if less is left to the next.
		{"abcbcd-abcd", 99, append(append(lit("abc"), api.Token{Dist: 2, Len: 2}), append(lit("d-"), api.Token{Dist: 7, Len: 3}, api.Token{Byte: 'd'})...)},
		{"\x00\xff\x00\xff", 9, append(lit("\x00\xff"), api.Token{Dist: 2, Len: 2})},
		{strings.Repeat("a", 66), 256, append(lit("a"), api.Token{Dist: 1, Len: 64}, api.Token{Byte: 'a'})},
		{strings.Repeat("a", 67), 256, append(lit("a"), api.Token{Dist: 1, Len: 64}, api.Token{Dist: 1, Len: 2})},
	} {
		if got, e := Parse(c.s, c.window); !slices.Equal(got, c.want) || e != api.OK {
			t.Errorf("%q %d: %d %d", c.s, c.window, got, e)
		}
	}
}

func TestParseP17(t *testing.T) {
	for _, s := range strs() {
		for _, window := range []int{1, 2, 3, 8, 64, 255, 256} {
			if got, e := Parse(s, window); !slices.Equal(got, slowParse(s, window)) || e != api.OK {
				t.Fatalf("%q %d: %d %d", s, window, got, e)
			}
		}
	}
}

// Whoever ranges over the tokens may leave off.
func TestTokensCanBeLeftP17(t *testing.T) {
	var got []api.Token
	for x := range tokens("ababab", 9) {
		got = append(got, x)
		if len(got) == 2 {
			break
		}
	}
	if !slices.Equal(got, lit("ab")) {
		t.Error(got)
	}
}

func TestParseErrorsP17(t *testing.T) {
	long := strings.Repeat("a", api.MaxBytes+1)
	for _, window := range []int{1, 256, 0, 257, math.MinInt, math.MaxInt} {
		if l, e := Parse(long, window); len(l) != 0 || e != api.ErrLarge {
			t.Error(window, l, e)
		}
	}
	for _, window := range []int{0, -1, 257, math.MinInt, math.MaxInt} {
		for _, s := range []string{"", "a", "ababab", long[1:]} {
			if l, e := Parse(s, window); len(l) != 0 || e != api.ErrArg {
				t.Error(window, len(s), l, e)
			}
		}
	}
}

func TestExpandP18(t *testing.T) {
	for _, c := range []struct {
		l    []api.Token
		want string
	}{
		{nil, ""},
		{[]api.Token{}, ""},
		{lit("a"), "a"},
		{lit("\x00\xff"), "\x00\xff"},
		{append(lit("ab"), api.Token{Dist: 2, Len: 4}), "ababab"},
		{append(lit("ab"), api.Token{Dist: 2, Len: 1}), "aba"},
		{append(lit("ab"), api.Token{Dist: 1, Len: 1}), "abb"},
		{append(lit("abc"), api.Token{Dist: 2, Len: 5}), "abcbcbcb"},
		{append(lit("abc"), api.Token{Dist: 3, Len: 2}, api.Token{Dist: 4, Len: 3}), "abcabbca"},
		{append(lit("a"), api.Token{Dist: 1, Len: 64}), strings.Repeat("a", 65)},
		{append(lit(strings.Repeat("-", 255)), api.Token{Byte: 'x'}, api.Token{Dist: 256, Len: 1}), strings.Repeat("-", 255) + "x-"},
		{append(lit("x"+strings.Repeat("-", 255)), api.Token{Dist: 256, Len: 2}), "x" + strings.Repeat("-", 255) + "x-"},
	} {
		if got, e := Expand(c.l); got != c.want || e != api.OK {
			t.Errorf("%d: %q %d", c.l, got, e)
		}
	}
}

func TestExpandGivesWhatWasParsedP18(t *testing.T) {
	for _, s := range strs() {
		for _, window := range []int{1, 2, 8, 64, 256} {
			l, _ := Parse(s, window)
			if got, e := Expand(l); got != s || e != api.OK {
				t.Fatalf("%q %d: %d %q %d", s, window, l, got, e)
			}
		}
		if got, e := Expand(lit(s)); got != s || e != api.OK {
			t.Fatalf("%q: %q %d", s, got, e)
		}
	}
}

// bad lists what is no token.
func bad() []api.Token {
	return []api.Token{
		{Byte: -1}, {Byte: 256}, {Byte: math.MinInt}, {Byte: math.MaxInt},
		{Dist: 1}, {Dist: -1}, {Dist: 1, Byte: 97}, {Dist: math.MaxInt},
		{Len: 1}, {Len: -1}, {Len: 1, Byte: 97}, {Len: math.MaxInt}, {Len: math.MinInt},
		{Dist: 1, Len: 65}, {Dist: 1, Len: -1}, {Dist: 1, Len: math.MaxInt}, {Dist: 1, Len: math.MinInt},
		{Dist: 257, Len: 1}, {Dist: -1, Len: 1}, {Dist: math.MaxInt, Len: 1}, {Dist: math.MinInt, Len: 1},
		{Dist: 1, Len: 1, Byte: 1}, {Dist: 1, Len: 1, Byte: -1}, {Dist: 1, Len: 1, Byte: 256},
	}
}

func TestExpandErrArgP18(t *testing.T) {
	for _, x := range bad() {
		// No error that is listed later hides this one: neither too few
		// bytes so far, nor too many.
		for _, n := range []int{0, 1, 300, 600} {
			if s, e := Expand(append(lit(strings.Repeat("a", n)), x)); s != "" || e != api.ErrArg {
				t.Error(n, x, s, e)
			}
		}
	}
}

func TestExpandErrFormP18(t *testing.T) {
	for _, c := range []struct{ n, dist, length int }{
		{0, 1, 1}, {1, 2, 1}, {1, 2, 64}, {2, 3, 1}, {255, 256, 1}, {100, 101, 5},
	} {
		l := lit(strings.Repeat("a", c.n))
		if s, e := Expand(append(l, api.Token{Dist: c.dist, Len: c.length})); s != "" || e != api.ErrForm {
			t.Error(c, s, e)
		}
		if s, e := Expand(append(l, api.Token{Byte: 'b'}, api.Token{Dist: c.dist, Len: c.length})); s == "" || e != api.OK {
			t.Error(c, s, e)
		}
	}
	if s, e := Expand([]api.Token{{Dist: 256, Len: 64}}); s != "" || e != api.ErrForm {
		t.Error(s, e)
	}
}

func TestExpandErrLargeP18(t *testing.T) {
	full := append(lit("a"), times(api.Token{Dist: 1, Len: 64}, 9)...)
	full = append(full, api.Token{Dist: 1, Len: 23})
	if s, e := Expand(full); s != strings.Repeat("a", 600) || e != api.OK {
		t.Error(len(s), e)
	}
	for _, x := range []api.Token{{Byte: 0}, {Byte: 97}, {Dist: 1, Len: 1}, {Dist: 256, Len: 64}} {
		if s, e := Expand(append(slices.Clone(full), x)); s != "" || e != api.ErrLarge {
			t.Error(x, s, e)
		}
	}
	nearly := lit(strings.Repeat("a", 599))
	for length := 1; length <= 64; length++ {
		s, e := Expand(append(slices.Clone(nearly), api.Token{Dist: 9, Len: length}))
		if length == 1 && (len(s) != 600 || e != api.OK) || length > 1 && (s != "" || e != api.ErrLarge) {
			t.Error(length, len(s), e)
		}
	}
	if s, e := Expand(times(api.Token{Byte: 97}, 1<<20)); s != "" || e != api.ErrLarge {
		t.Error(len(s), e)
	}
}

func TestExpandFirstBadTokenDecidesP18(t *testing.T) {
	arg, form := api.Token{Byte: 256}, api.Token{Dist: 256, Len: 1}
	large := append(lit(strings.Repeat("a", 600)), api.Token{Byte: 97})
	for _, c := range []struct {
		l    []api.Token
		want api.Errno
	}{
		{[]api.Token{arg, form}, api.ErrArg},
		{[]api.Token{form, arg}, api.ErrForm},
		{[]api.Token{{Byte: 97}, form, arg}, api.ErrForm},
		{append(slices.Clone(large), arg), api.ErrLarge},
		{append([]api.Token{form}, large...), api.ErrForm},
		{append([]api.Token{arg}, large...), api.ErrArg},
	} {
		if s, e := Expand(c.l); s != "" || e != c.want {
			t.Error(len(c.l), s, e, c.want)
		}
	}
}

func TestExpandLeavesItsArgumentP2(t *testing.T) {
	spare := append(lit("ab"), api.Token{Dist: 2, Len: 4}, api.Token{Byte: -7}, api.Token{Len: -8})
	want := slices.Clone(spare)
	if s, e := Expand(spare[:3]); s != "ababab" || e != api.OK || !slices.Equal(spare, want) {
		t.Error(s, e, spare)
	}
}

func TestParseIsNewMemoryP2(t *testing.T) {
	a, _ := Parse("ababab", 9)
	for i := range a[:cap(a)] {
		a[:cap(a)][i] = api.Token{Dist: -1}
	}
	if b, _ := Parse("ababab", 9); !slices.Equal(b, slowParse("ababab", 9)) {
		t.Error(b)
	}
}
