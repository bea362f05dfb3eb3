package pack

import (
	"math"
	"slices"
	"strings"
	"testing"

	"woolsack/api"
	"woolsack/lz"
)

// mixed makes a string of n bytes, of the given number of kinds.
func mixed(n, kinds, seed int) string {
	b := make([]byte, n)
	x := uint32(seed)*2654435761 + 1
	for i := range b {
		x = x*1664525 + 1013904223
		b[i] = byte(int(x>>24) % kinds)
	}
	return string(b)
}

func lit(s string) []api.Token {
	var l []api.Token
	for i := range len(s) {
		l = append(l, api.Token{Byte: int(s[i])})
	}
	return l
}

// digits answers the binary digits of n, at least as many as told.
func digits(n, least int) string {
	s := ""
	for ; n > 0 || len(s) < least; n /= 2 {
		s = string(rune('0'+n%2)) + s
	}
	return s
}

func code(n int) string {
	d := digits(n, 1)
	return strings.Repeat("0", len(d)-1) + d
}

func slowBits(l []api.Token) string {
	s := ""
	for _, t := range l {
		if t.Len > 0 {
			s += "1" + code(t.Dist) + code(t.Len)
		} else {
			s += "0" + digits(t.Byte, 8)
		}
	}
	return s
}

// allBits lists the bits of up to n characters.
func allBits(n int) []string {
	l := []string{""}
	for i := 0; len(l[i]) < n; i++ {
		l = append(l, l[i]+"0", l[i]+"1")
	}
	return l
}

// notBits lists strings with a character that is no bit.
func notBits() []string {
	l := []string{"0a1", "\n", " 1", "1 ", "-1", "+1", "0b1", "1_1", "\u0660", "1\u0661", "O1", "l"}
	bits := slowBits(append(lit("ab"), api.Token{Dist: 2, Len: 4}))
	for _, c := range []string{"2", "/", "\x00", "\x01", "\x80", "\xb0", "\xb1", "\xff"} {
		for i := 0; i <= len(bits); i++ {
			l = append(l, bits[:i]+c+bits[i:], bits[:i]+c)
		}
		// Neither what is cut off nor what is too large hides it.
		l = append(l, "1"+c, "0"+c, "1"+strings.Repeat("0", 40)+c, "111"+c, strings.Repeat("0", 9*601)+c)
	}
	return l
}

// good lists tokens that can be expanded.
func good() [][]api.Token {
	l := [][]api.Token{nil, {}, lit("a"), append(lit("a"), api.Token{Dist: 1, Len: 3})}
	for b := range 256 {
		l = append(l, []api.Token{{Byte: b}})
	}
	long := lit(strings.Repeat("ab", 128))
	for dist := 1; dist <= 256; dist++ {
		l = append(l, append(slices.Clone(long), api.Token{Dist: dist, Len: 1 + dist%64}, api.Token{Byte: dist % 256}))
	}
	for length := 1; length <= 64; length++ {
		l = append(l, append(lit("xyz"), api.Token{Dist: 1 + length%3, Len: length}, api.Token{Dist: 1, Len: 1}))
	}
	for _, kinds := range []int{1, 2, 3, 4, 16, 256} {
		for _, n := range []int{10, 599, 600} {
			parsed, _ := lz.Parse(mixed(n, kinds, n+kinds), 256)
			l = append(l, parsed, lit(mixed(n, kinds, n)))
		}
	}
	return l
}

func TestBitsExamplesP22(t *testing.T) {
	for _, c := range []struct {
		l    []api.Token
		want string
	}{
		{nil, ""},
		{lit("a"), "001100001"},
		{lit("\x00"), "000000000"},
		{lit("\xff"), "011111111"},
		{lit("\x01\x80"), "000000001" + "010000000"},
		{append(lit("a"), api.Token{Dist: 1, Len: 3}), "001100001" + "11011"},
		{append(lit("a"), api.Token{Dist: 1, Len: 1}), "001100001" + "111"},
		{append(lit("ab"), api.Token{Dist: 2, Len: 4}), "001100001" + "001100010" + "101000100"},
		{append(lit("a"), api.Token{Dist: 1, Len: 64}), "001100001" + "11" + "0000001000000"},
	} {
		if s, e := Bits(c.l); s != c.want || e != api.OK {
			t.Error(c.l, s, e)
		}
	}
}

func TestBitsP22(t *testing.T) {
	for _, l := range good() {
		if s, e := Bits(l); s != slowBits(l) || e != api.OK {
			t.Fatal(l, s, e)
		}
	}
}

func TestBitsErrorsP22(t *testing.T) {
	large := append(lit(strings.Repeat("a", 600)), api.Token{Byte: 97})
	arg, form := api.Token{Byte: 256}, api.Token{Dist: 256, Len: 1}
	for _, c := range []struct {
		l    []api.Token
		want api.Errno
	}{
		{[]api.Token{{Byte: -1}}, api.ErrArg},
		{[]api.Token{arg}, api.ErrArg},
		{[]api.Token{{Byte: math.MinInt}}, api.ErrArg},
		{[]api.Token{{Len: 1}}, api.ErrArg},
		{[]api.Token{{Dist: 1}}, api.ErrArg},
		{[]api.Token{{Dist: 257, Len: 1}}, api.ErrArg},
		{append(lit("a"), api.Token{Dist: 1, Len: 65}), api.ErrArg},
		{append(lit("a"), api.Token{Dist: 1, Len: -1}), api.ErrArg},
		{append(lit("a"), api.Token{Dist: math.MaxInt, Len: math.MaxInt}), api.ErrArg},
		{append(lit("a"), api.Token{Dist: 1, Len: 1, Byte: 1}), api.ErrArg},
		{[]api.Token{{Dist: 1, Len: 3}}, api.ErrForm},
		{append(lit("a"), api.Token{Dist: 2, Len: 1}), api.ErrForm},
		{large, api.ErrLarge},
		{append(lit(strings.Repeat("a", 599)), api.Token{Dist: 1, Len: 2}), api.ErrLarge},
		{[]api.Token{form, arg}, api.ErrForm},
		{[]api.Token{arg, form}, api.ErrArg},
		{append(slices.Clone(large), arg), api.ErrLarge},
	} {
		if s, e := Bits(c.l); s != "" || e != c.want {
			t.Error(c.l, s, e, c.want)
		}
	}
}

func TestTokensP23(t *testing.T) {
	for _, l := range good() {
		if m, e := Tokens(slowBits(l)); !slices.Equal(m, l) || e != api.OK {
			t.Fatal(l, m, e)
		}
	}
}

// shortOnes lists the tokens that can be expanded and have at most n bits,
// by their bits, for n up to 17: only the first one is a byte.
func shortOnes(n int) map[string][]api.Token {
	all := map[string][]api.Token{"": nil}
	var todo [][]api.Token
	for b := range 256 {
		todo = append(todo, []api.Token{{Byte: b}})
	}
	for len(todo) > 0 {
		l := todo[0]
		todo = todo[1:]
		s := slowBits(l)
		if len(s) > n {
			continue
		}
		all[s] = l
		text, _ := lz.Expand(l)
		for dist := 1; dist <= len(text); dist++ {
			for length := 1; len(s)+2+len(code(length)) <= n; length++ {
				todo = append(todo, append(slices.Clone(l), api.Token{Dist: dist, Len: length}))
			}
		}
	}
	return all
}

func TestTokensOfAllBitsP23(t *testing.T) {
	all := shortOnes(15)
	for _, s := range allBits(15) {
		want, ok := all[s]
		l, e := Tokens(s)
		if ok != (e == api.OK) || !slices.Equal(l, want) {
			t.Fatal(s, l, e, want)
		}
	}
}

func TestTokensErrFormP23(t *testing.T) {
	for _, s := range notBits() {
		if l, e := Tokens(s); len(l) != 0 || e != api.ErrForm {
			t.Errorf("%q: %d %d", s, l, e)
		}
	}
}

func TestTokensErrShortP23(t *testing.T) {
	for _, l := range good() {
		if len(l) == 0 || len(l) > 300 {
			continue
		}
		s := slowBits(l)
		last := len(s) - len(slowBits(l[len(l)-1:]))
		for i := last + 1; i < len(s); i++ {
			if m, e := Tokens(s[:i]); len(m) != 0 || e != api.ErrShort {
				t.Fatal(l, i, m, e)
			}
		}
	}
	thirty := strings.Repeat("0", 30)
	for _, s := range []string{
		"0", "00000000", "1", "10", "101", "11", "110", "1101", "1" + thirty, "11" + thirty, "1" + thirty + "1" + thirty,
		// What can't be expanded is told only when all tokens are read.
		"111" + "0", "111" + "1", "1" + code(257) + "1" + "00", strings.Repeat("0", 9*601) + "0",
	} {
		if l, e := Tokens(s); len(l) != 0 || e != api.ErrShort {
			t.Error(s, l, e)
		}
	}
}

func TestTokensErrLargeP23(t *testing.T) {
	many := strings.Repeat("0", 31)
	for _, s := range []string{
		"1" + many, "1" + many + "1", "1" + many + strings.Repeat("1", 99), "1" + many + many,
		"11" + many, "11" + many + "1", "11" + many + strings.Repeat("1", 99),
		"1" + code(1<<31-1) + many, "1" + code(1<<31-1) + many + "1",
		// Before what can't be expanded, and before what is cut off behind it.
		"111" + "1" + many, "001100001" + "1" + many, "1" + many + "1" + "0",
	} {
		if l, e := Tokens(s); len(l) != 0 || e != api.ErrLarge {
			t.Error(s, l, e)
		}
	}
}

func TestTokensThatCannotBeExpandedP23(t *testing.T) {
	a := "001100001"
	for _, c := range []struct {
		s    string
		want api.Errno
	}{
		{"111", api.ErrForm},
		{a + "1" + code(2) + "1", api.ErrForm},
		{"1" + code(256) + code(64), api.ErrForm},
		{"1" + code(257) + "1", api.ErrArg},
		{"11" + code(65), api.ErrArg},
		{a + "11" + code(65), api.ErrArg},
		{"1" + code(1<<31-1) + code(1<<31-1), api.ErrArg},
		{"111" + "11" + code(65), api.ErrForm},
		{"11" + code(65) + "111", api.ErrArg},
		{strings.Repeat(a, 600) + "111", api.ErrLarge},
		{strings.Repeat(a, 601), api.ErrLarge},
		{strings.Repeat(a, 601) + "11" + code(65), api.ErrLarge},
		// Many bits are no reason to take long.
		{a + strings.Repeat("111", 1<<19), api.ErrLarge},
	} {
		if l, e := Tokens(c.s); len(l) != 0 || e != c.want {
			t.Error(len(c.s), l, e, c.want)
		}
	}
}

func slowBytes(s string) string {
	s += "1"
	for len(s)%8 != 0 {
		s += "0"
	}
	b := make([]byte, len(s)/8)
	for i := range len(s) {
		b[i/8] |= (s[i] - '0') << (7 - i%8)
	}
	return string(b)
}

func TestBytesExamplesP24(t *testing.T) {
	for s, want := range map[string]string{
		"": "\x80", "0": "\x40", "1": "\xc0", "0000000": "\x01", "1111111": "\xff",
		"00000000": "\x00\x80", "11111111": "\xff\x80", "01100001": "a\x80",
		"011000010110001": "ac", "00110000111011": "\x30\xee",
	} {
		if b, e := Bytes(s); b != want || e != api.OK {
			t.Errorf("%s: %q %d", s, b, e)
		}
		if u, e := Unbytes(want); u != s || e != api.OK {
			t.Errorf("%q: %s %d", want, u, e)
		}
	}
}

func TestBytesP24(t *testing.T) {
	all := allBits(16)
	for _, l := range good() {
		all = append(all, slowBits(l))
	}
	for _, s := range append(all, strings.Repeat("0", 10000), strings.Repeat("01", 10001)) {
		b, e := Bytes(s)
		if b != slowBytes(s) || e != api.OK {
			t.Fatalf("%s: %q %d", s, b, e)
		}
		if u, e := Unbytes(b); u != s || e != api.OK {
			t.Fatalf("%q: %s %d", b, u, e)
		}
	}
}

func TestBytesErrorsP24(t *testing.T) {
	for _, s := range notBits() {
		if b, e := Bytes(s); b != "" || e != api.ErrForm {
			t.Errorf("%q: %q %d", s, b, e)
		}
	}
}

func TestUnbytesOfAllShortStringsP24(t *testing.T) {
	bits := map[string]string{}
	for _, s := range allBits(15) {
		bits[slowBytes(s)] = s
	}
	var all []string
	for i := range 256 {
		all = append(all, string([]byte{byte(i)}))
		for j := range 256 {
			all = append(all, string([]byte{byte(i), byte(j)}))
		}
	}
	for _, b := range append(all, "") {
		want, ok := bits[b]
		u, e := Unbytes(b)
		if ok != (e == api.OK) || u != want || !ok && e != api.ErrForm {
			t.Fatalf("%q: %q %d", b, u, e)
		}
	}
}

func TestUnbytesErrorsP24(t *testing.T) {
	for _, b := range []string{"", "\x00", "\x80\x00", "\xff\x00", "\x01\x00\x00", strings.Repeat("\x00", 600), strings.Repeat("a", 600) + "\x00"} {
		if u, e := Unbytes(b); u != "" || e != api.ErrForm {
			t.Errorf("%q: %s %d", b, u, e)
		}
	}
}

func TestBitsLeaveTheirArgumentP2(t *testing.T) {
	spare := append(lit("ab"), api.Token{Dist: 2, Len: 4}, api.Token{Byte: -7}, api.Token{Len: -8})
	want := slices.Clone(spare)
	if s, e := Bits(spare[:3]); s != slowBits(want[:3]) || e != api.OK || !slices.Equal(spare, want) {
		t.Error(s, e, spare)
	}
}

func TestTokensAreNewMemoryP2(t *testing.T) {
	want := append(lit("ab"), api.Token{Dist: 2, Len: 4})
	a, _ := Tokens(slowBits(want))
	for i := range a[:cap(a)] {
		a[:cap(a)][i] = api.Token{Dist: -1}
	}
	if b, _ := Tokens(slowBits(want)); !slices.Equal(b, want) {
		t.Error(b)
	}
}
