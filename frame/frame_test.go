package frame

import (
	"math"
	"strings"
	"testing"
	"unsafe"

	"woolsack/api"
)

// mixed makes a string of n bytes of all kinds.
func mixed(n, seed int) string {
	b := make([]byte, n)
	x := uint32(seed)*2654435761 + 1
	for i := range b {
		x = x*1664525 + 1013904223
		b[i] = byte(x >> 24)
	}
	return string(b)
}

// slowSum divides bit by bit, by the modulus Great.
func slowSum(s string) string {
	p := 1
	for i := range len(s) {
		for bit := 7; bit >= 0; bit-- {
			p = p<<1 | int(s[i]>>bit)&1
			if p >= 1<<30 {
				p ^= 1073741907
			}
		}
	}
	return string([]byte{byte(p >> 24), byte(p >> 16), byte(p >> 8), byte(p)})
}

// slowPut makes a frame of any kind, and tells size as its length.
func slowPut(kind byte, size int, body string) string {
	s := string([]byte{kind, byte(size / 256), byte(size % 256)}) + body
	return s + slowSum(s)
}

// bodies has those lengths at which a byte of a length runs out, and those
// at which a frame is longer than print.Of takes.
func bodies() []string {
	all := []string{"", "a", "ab", "\x00", "\xff", "\x00\x00", "é€𐀀"}
	for _, n := range []int{3, 255, 256, 257, 511, 512, 513, 596, 597, 598, 599, 600, 601, 602, 603, 604, 698, 699, 700} {
		all = append(all, mixed(n, n), strings.Repeat("\x00", n), strings.Repeat("\xff", n))
	}
	return all
}

func TestPutExamplesP27(t *testing.T) {
	zeros, as := strings.Repeat("\x00", 598), strings.Repeat("a", 700)
	for _, c := range []struct {
		f    api.Frame
		want string
	}{
		{api.Frame{Kind: 2, Body: "ab"}, "\x02\x00\x02ab\x00\x03\x2f\xfa"},
		{api.Frame{Kind: 1}, "\x01\x00\x00\x01\x01\x00\x00"},
		{api.Frame{Kind: 255, Body: as}, "\xff\x02\xbc" + as + "\x12\xf7\xd3\x3a"},
		{api.Frame{Kind: 1, Body: zeros}, "\x01\x02\x56" + zeros + "\x07\xee\xf6\x65"},
	} {
		if s, e := Put(c.f); s != c.want || e != api.OK {
			t.Errorf("%d %q: %q %d", c.f.Kind, c.f.Body, s, e)
		}
	}
}

func TestPutP27(t *testing.T) {
	for _, body := range bodies() {
		for _, kind := range []int{1, 2, 127, 128, 254, 255} {
			s, e := Put(api.Frame{Kind: kind, Body: body})
			if s != slowPut(byte(kind), len(body), body) || len(s) != len(body)+7 || e != api.OK {
				t.Fatalf("%d %q: %q %d", kind, body, s, e)
			}
		}
	}
	for kind := 1; kind <= 255; kind++ {
		if s, e := Put(api.Frame{Kind: kind, Body: "ab"}); s != slowPut(byte(kind), 2, "ab") || e != api.OK {
			t.Fatalf("%d: %q %d", kind, s, e)
		}
	}
}

func TestPutErrorsP27(t *testing.T) {
	long := strings.Repeat("a", 701)
	for _, kind := range []int{0, -1, 256, 257, 512, -255, math.MinInt, math.MaxInt, math.MaxInt - 254} {
		for _, body := range []string{"", "ab", long[1:], long} {
			if s, e := Put(api.Frame{Kind: kind, Body: body}); s != "" || e != api.ErrArg {
				t.Errorf("%d %d: %q %d", kind, len(body), s, e)
			}
		}
	}
	for _, body := range []string{long, long + long, strings.Repeat("a", 1<<16), strings.Repeat("a", 1<<16+2)} {
		for _, kind := range []int{1, 255} {
			if s, e := Put(api.Frame{Kind: kind, Body: body}); s != "" || e != api.ErrLarge {
				t.Errorf("%d %d: %q %d", kind, len(body), s, e)
			}
		}
	}
}

func TestGetP28(t *testing.T) {
	for _, body := range bodies() {
		for _, kind := range []int{1, 2, 128, 255} {
			s := slowPut(byte(kind), len(body), body)
			for _, rest := range []string{"", "x", "\x00", s, mixed(1000, 1)} {
				f, n, e := Get(s + rest)
				if f.Kind != kind || f.Body != body || n != len(s) || e != api.OK {
					t.Fatalf("%d %q: %d %q %d %d", kind, body, f.Kind, f.Body, n, e)
				}
			}
		}
	}
}

func isError(t *testing.T, s string, want api.Errno) {
	t.Helper()
	if f, n, e := Get(s); f != (api.Frame{}) || n != 0 || e != want {
		t.Errorf("%q: %d %q %d %d, want %d", s, f.Kind, f.Body, n, e, want)
	}
}

func TestGetCutOffP28(t *testing.T) {
	for _, body := range bodies() {
		s := slowPut(7, len(body), body)
		for i := range len(s) {
			isError(t, s[:i], api.ErrShort)
		}
	}
	// Fewer than three bytes are told before a kind or a length that is wrong.
	for _, s := range []string{"", "\x00", "\x00\x00", "\x00\xff", "\x01\xff", "\xff\xff", "\x01\x03"} {
		isError(t, s, api.ErrShort)
	}
	// And fewer bytes than the frame has before a fingerprint that is wrong.
	for _, s := range []string{"\x01\x00\x00", "\x01\x00\x00\xff\xff\xff", "\x01\x00\x01\x00\x00\x00\x00", "\x01\x02\xbc" + strings.Repeat("a", 703)} {
		isError(t, s, api.ErrShort)
	}
	isError(t, "\x01\x02\xbc"+strings.Repeat("a", 704), api.ErrSum)
}

func TestGetErrFormP28(t *testing.T) {
	for _, body := range bodies() {
		s := slowPut(0, len(body), body)
		for i := 3; i <= len(s); i++ {
			isError(t, s[:i], api.ErrForm)
		}
	}
	for _, size := range []int{701, 702, 767, 768, 1024, 1 << 15, 1<<16 - 1} {
		// Whether or not there are so many bytes, and the right fingerprint.
		isError(t, slowPut(1, size, strings.Repeat("a", size)), api.ErrForm)
		isError(t, slowPut(1, size, "ab"), api.ErrForm)
		isError(t, string([]byte{1, byte(size >> 8), byte(size)}), api.ErrForm)
		isError(t, string([]byte{0, byte(size >> 8), byte(size)}), api.ErrForm)
	}
	isError(t, "\x00\x00\x00", api.ErrForm)
	isError(t, "\x01\x02\xbd", api.ErrForm)
	isError(t, "\x01\x02\xbc", api.ErrShort)
}

func TestGetErrSumP28(t *testing.T) {
	for _, body := range []string{"", "ab", mixed(30, 1), mixed(597, 2), mixed(598, 2), mixed(700, 3)} {
		whole := slowPut(1, len(body), body)
		for i := 3 * 8; i < 8*len(whole); i++ {
			b := []byte(whole)
			b[i/8] ^= 1 << (i % 8)
			isError(t, string(b), api.ErrSum)
			isError(t, string(b)+"rest", api.ErrSum)
		}
		for kind := 2; kind <= 255; kind++ {
			isError(t, string([]byte{byte(kind)})+whole[1:], api.ErrSum)
		}
	}
	// One byte fewer or more in the length, with enough bytes behind.
	s := slowPut(1, 2, "ab")
	isError(t, s[:2]+"\x01"+s[3:], api.ErrSum)
	isError(t, s[:2]+"\x03"+s[3:]+"x", api.ErrSum)
	// The fingerprint goes over the kind and the length too.
	isError(t, "\x01\x00\x02ab"+slowSum("ab"), api.ErrSum)
	isError(t, "\x01\x00\x00\x00\x00\x00\x00", api.ErrSum)
	isError(t, "\x01\x00\x00\xff\xff\xff\xff", api.ErrSum)
}

// The four bytes are the fingerprint itself, not what has it as a remainder.
func TestGetSumIsReducedP28(t *testing.T) {
	s := slowPut(1, 2, "ab")
	sum := 0
	for i := 5; i < 9; i++ {
		sum = sum<<8 | int(s[i])
	}
	for _, m := range []int{api.Great, api.Great << 1, api.Great ^ api.Great<<1} {
		x := sum ^ m
		isError(t, s[:5]+string([]byte{byte(x >> 24), byte(x >> 16), byte(x >> 8), byte(x)}), api.ErrSum)
	}
}

func TestGetReadsFramesOneAfterAnotherP28(t *testing.T) {
	all := ""
	for i, body := range bodies() {
		s, _ := Put(api.Frame{Kind: 1 + i, Body: body})
		all += s
	}
	for i, body := range bodies() {
		f, n, e := Get(all)
		if f.Kind != 1+i || f.Body != body || e != api.OK {
			t.Fatal(i, f, n, e)
		}
		all = all[n:]
	}
	isError(t, all, api.ErrShort)
}

func overlap(a, b string) bool {
	from, at := uintptr(unsafe.Pointer(unsafe.StringData(a))), uintptr(unsafe.Pointer(unsafe.StringData(b)))
	return at < from+uintptr(len(a)) && from < at+uintptr(len(b))
}

func TestStringsAreNewMemoryP2(t *testing.T) {
	body := mixed(100, 1)
	s, _ := Put(api.Frame{Kind: 1, Body: body})
	f, _, _ := Get(s)
	if overlap(body, s) || overlap(s, f.Body) {
		t.Error("shares memory")
	}
}
