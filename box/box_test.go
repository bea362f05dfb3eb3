package box

import (
	"strings"
	"testing"
	"unsafe"

	"woolsack/api"
	"woolsack/lz"
	"woolsack/pack"
)

// mixed makes a string of n bytes, of the given number of kinds.
func mixed(n, kinds, seed int) string {
	b := make([]byte, n)
	x := uint32(seed)*2654435761 + 1
	for i := range b {
		x = x*1664525 + 1013904223
		b[i] = byte(int(x>>24) % kinds)
	}
	return string(b)
}

// ascending lists n bytes, none of which returns before the 256th.
func ascending(n int) string {
	b := make([]byte, n)
	for i := range b {
		b[i] = byte(i)
	}
	return string(b)
}

// slowLongest tries the lengths from the greatest on.
func slowLongest(s string, i int) (int, int) {
	for n := min(64, len(s)-i); n >= 2; n-- {
		for d := 1; d <= min(i, 256); d++ {
			if s[i:i+n] == s[i-d:i-d+n] {
				return d, n
			}
		}
	}
	return 0, 0
}

// digits answers the binary digits of n, at least as many as told.
func digits(n, least int) string {
	s := ""
	for ; n > 0 || len(s) < least; n /= 2 {
		s = string(rune('0'+n%2)) + s
	}
	return s
}

func code(n int) string {
	d := digits(n, 1)
	return strings.Repeat("0", len(d)-1) + d
}

func literal(b byte) string { return "0" + digits(int(b), 8) }

func copied(dist, length int) string { return "1" + code(dist) + code(length) }

func slowBits(s string) string {
	bits := ""
	for i := 0; i < len(s); {
		d, n := slowLongest(s, i)
		if n == 0 {
			bits += literal(s[i])
			i++
			continue
		}
		bits += copied(d, n)
		i += n
	}
	return bits
}

func slowBytes(bits string) string {
	bits += "1"
	for len(bits)%8 != 0 {
		bits += "0"
	}
	b := make([]byte, len(bits)/8)
	for i := range len(bits) {
		b[i/8] |= (bits[i] - '0') << (7 - i%8)
	}
	return string(b)
}

func slowShut(s string) string {
	if p := slowBytes(slowBits(s)); len(p) < len(s) {
		return "\x01" + p
	}
	return "\x00" + s
}

func strs() []string {
	all := []string{"", "\x00", "\x01", "\x00\x01", "\x01\x80", "é€𐀀", strings.Repeat("ab", 40)}
	for n := range 40 {
		all = append(all, strings.Repeat("a", n), strings.Repeat("\x00", n), strings.Repeat("\xff\x01", n), strings.Repeat("abc", n), ascending(n), ascending(n)+ascending(n))
		for kinds := 1; kinds <= 4; kinds++ {
			all = append(all, mixed(n, kinds, n))
		}
	}
	for _, n := range []int{255, 256, 257, 300, 599, 600} {
		all = append(all, ascending(n), strings.Repeat("a", n))
		for _, kinds := range []int{1, 2, 3, 8, 16, 100, 256} {
			all = append(all, mixed(n, kinds, n+kinds))
		}
	}
	// The same again, at the window's edge and just behind it.
	block := mixed(100, 256, 7)
	return append(all, block+mixed(156, 256, 8)+block, block+mixed(157, 256, 8)+block)
}

func TestShutExamplesP25(t *testing.T) {
	for s, want := range map[string]string{
		"":                        "\x00",
		"a":                       "\x00a",
		"\x00":                    "\x00\x00",
		"\x01":                    "\x00\x01",
		"aa":                      "\x00aa",
		"abcdefgh":                "\x00abcdefgh",
		"aaa":                     "\x01\x30\xea",
		"aaaa":                    "\x01\x30\xee",
		"aaaaa":                   "\x01\x30\xe4\x80",
		"abcabc":                  "\x01\x30\x98\x8c\x76\xe0",
		"abababab":                "\x01\x30\x98\xa8\xd0",
		strings.Repeat("ab", 40):  "\x01\x30\x98\xa8\x08\x14\x3a",
		strings.Repeat("a", 600):  "\x01\x30\xe0\x40\xc0\x81\x81\x03\x02\x06\x04\x0c\x08\x18\x10\x30\x20\x60\x40\xc2\xf0",
		ascending(256):            "\x00" + ascending(256),
		strings.Repeat("\x00", 3): "\x01\x00\x6a",
	} {
		if b, e := Shut(s); b != want || e != api.OK {
			t.Errorf("%q: %q %d", s, b, e)
		}
	}
}

func TestShutP25(t *testing.T) {
	for _, s := range strs() {
		if b, e := Shut(s); b != slowShut(s) || e != api.OK {
			t.Fatalf("%q: %q %d", s, b, e)
		}
	}
}

// The packed bytes, without the one ahead of them, are held against s.
func TestShutAtTheEdgeP25(t *testing.T) {
	seen := map[int]int{}
	for n := range 40 {
		for m := range n + 1 {
			s := ascending(n) + ascending(m)
			p := slowBytes(slowBits(s))
			want := "\x00" + s
			if len(p) < len(s) {
				want = "\x01" + p
			}
			seen[len(p)-len(s)]++
			if b, e := Shut(s); b != want || e != api.OK {
				t.Fatalf("%q: %q %d", s, b, e)
			}
		}
	}
	for _, more := range []int{-2, -1, 0, 1} {
		if seen[more] == 0 {
			t.Error("no string whose packed bytes are longer by", more)
		}
	}
}

func TestShutErrorsP25(t *testing.T) {
	for _, n := range []int{601, 602, 1000, 1 << 20} {
		for _, s := range []string{strings.Repeat("a", n), mixed(n, 256, n)} {
			if b, e := Shut(s); b != "" || e != api.ErrLarge {
				t.Errorf("%d: %q %d", n, b, e)
			}
		}
	}
}

func TestOpenP26(t *testing.T) {
	for _, s := range strs() {
		if u, e := Open(slowShut(s)); u != s || e != api.OK {
			t.Fatalf("%q: %q %d", s, u, e)
		}
	}
}

// refused tells whether b is opened as one that Shut makes of no string.
func refused(b string) bool {
	s, e := Open(b)
	return s == "" && e == api.ErrForm
}

// shortBoxes lists the strings of boxes of up to three bytes, by these: two
// packed bytes have room for a byte and copies of it.
func shortBoxes() map[string]string {
	all := map[string]string{}
	add := func(s string) {
		if b := slowShut(s); len(b) <= 3 {
			all[b] = s
		}
	}
	add("")
	for i := range 256 {
		for n := 1; n <= 64; n++ {
			add(strings.Repeat(string([]byte{byte(i)}), n))
		}
		for j := range 256 {
			add(string([]byte{byte(i), byte(j)}))
		}
	}
	return all
}

func TestOpenAllShortBoxesP26(t *testing.T) {
	boxes := shortBoxes()
	try := func(b string) {
		want, ok := boxes[b]
		if s, e := Open(b); ok && (s != want || e != api.OK) || !ok && !refused(b) {
			t.Fatalf("%q: %q %d", b, s, e)
		}
	}
	try("")
	for i := range 256 {
		try(string([]byte{byte(i)}))
		for j := range 256 {
			try(string([]byte{byte(i), byte(j)}))
			for _, first := range []byte{0, 1, 2, 128, 255} {
				try(string([]byte{first, byte(i), byte(j)}))
			}
		}
	}
}

func TestOpenBeginsWithNeitherP26(t *testing.T) {
	for first := 2; first < 256; first++ {
		for _, rest := range []string{"", "a", "\x30\xee", strings.Repeat("a", 600)} {
			if b := string([]byte{byte(first)}) + rest; !refused(b) {
				t.Errorf("%q", b)
			}
		}
	}
}

// The other one of the two forms is never a box.
func TestOpenWrongFormP26(t *testing.T) {
	for _, s := range strs() {
		p := slowBytes(slowBits(s))
		if len(p) < len(s) {
			if !refused("\x00" + s) {
				t.Fatalf("plain: %q", s)
			}
		} else if !refused("\x01" + p) {
			t.Fatalf("packed: %q", s)
		}
	}
}

// Bits that stand for a string, but in another way than Shut takes.
func TestOpenOtherTokensP26(t *testing.T) {
	a, b, c := literal('a'), literal('b'), literal('c')
	abc := a + b + c
	for _, bits := range []string{
		// Bytes where there is a match, and a match that was cut in two.
		strings.Repeat(a, 40),
		a + a + copied(1, 38),
		a + copied(1, 20) + copied(1, 19),
		a + copied(1, 38) + copied(1, 1),
		a + copied(1, 38) + a,
		// A copy of one byte alone.
		a + b + copied(2, 1) + c + copied(4, 4) + copied(4, 60),
		// A copy that is not from the nearest place.
		a + copied(1, 64) + copied(2, 30),
		a + b + copied(2, 64) + copied(4, 34),
		abc + copied(3, 64) + copied(6, 3),
	} {
		l, e := pack.Tokens(bits)
		s, f := lz.Expand(l)
		box := "\x01" + slowBytes(bits)
		if e != api.OK || f != api.OK || box == slowShut(s) {
			t.Errorf("%s are not such bits", bits)
		}
		if !refused(box) {
			t.Errorf("%q: %q", s, box)
		}
	}
}

func TestOpenWhatCannotBeReadP26(t *testing.T) {
	a := literal('a')
	full := a + strings.Repeat(copied(1, 64), 9) + copied(1, 23)
	if s, e := Open("\x01" + slowBytes(full)); len(s) != 600 || e != api.OK {
		t.Error(len(s), e)
	}
	for _, bits := range []string{
		"", "0", "1", "10", "00110000", a, a + "0", a + "11", a + copied(1, 30) + "1",
		copied(1, 3), copied(1, 64), a + copied(2, 30), copied(256, 64),
		a + copied(1, 65), a + copied(1, 1000), a + copied(257, 30), a + copied(1<<30, 1<<30),
		a + "1" + strings.Repeat("0", 31) + "1", a + "1" + strings.Repeat("0", 200),
		a + strings.Repeat(copied(1, 64), 9) + copied(1, 24),
		full + copied(1, 1), full + a, full + copied(1, 64), a + strings.Repeat(copied(1, 64), 300),
	} {
		if b := "\x01" + slowBytes(bits); !refused(b) {
			t.Errorf("%s: %q", bits, b)
		}
	}
	whole := slowShut(strings.Repeat("ab", 40))
	for _, b := range []string{"", "\x01", "\x01\x00", "\x01\x80\x00", whole + "\x00", whole + "\x80", whole + "a", "\x01" + whole, "\x00" + whole[:1] + strings.Repeat("ab", 40)} {
		if !refused(b) {
			t.Errorf("%q", b)
		}
	}
}

func TestOpenTooLongP26(t *testing.T) {
	for _, n := range []int{601, 602, 5000, 1 << 26} {
		for _, first := range []string{"\x00", "\x01", "\x02"} {
			if !refused(first + ascending(n)) {
				t.Error(first, n)
			}
		}
	}
	s := mixed(600, 256, 5)
	if u, e := Open("\x00" + s); u != s || e != api.OK {
		t.Error(u, e)
	}
}

// Whatever is changed in a box, what is opened is what would be shut so.
func TestOpenChangedBoxesP26(t *testing.T) {
	for _, s := range []string{"a", "aaa", "abcabc", strings.Repeat("ab", 40), mixed(60, 3, 1), mixed(200, 2, 2), ascending(30) + ascending(30), mixed(20, 256, 3)} {
		whole := slowShut(s)
		for i := range 8 * len(whole) {
			b := []byte(whole)
			b[i/8] ^= 1 << (i % 8)
			for _, x := range []string{string(b), string(b[:i/8]), string(b[:i/8+1])} {
				if u, e := Open(x); e == api.OK && slowShut(u) != x || e != api.OK && !refused(x) {
					t.Fatalf("%q: %q %d", x, u, e)
				}
			}
		}
	}
}

func overlap(a, b string) bool {
	from, at := uintptr(unsafe.Pointer(unsafe.StringData(a))), uintptr(unsafe.Pointer(unsafe.StringData(b)))
	return at < from+uintptr(len(a)) && from < at+uintptr(len(b))
}

func TestStringsAreNewMemoryP2(t *testing.T) {
	for _, s := range []string{mixed(40, 256, 1), mixed(400, 2, 1)} {
		b, _ := Shut(s)
		u, _ := Open(b)
		if overlap(s, b) || overlap(b, u) || overlap(s, u) {
			t.Errorf("%q shares memory", s)
		}
	}
}
