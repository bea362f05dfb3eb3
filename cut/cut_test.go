package cut

import (
	"math"
	"slices"
	"strings"
	"testing"
	"unsafe"

	"woolsack/api"
)

// mixed makes a string of n bytes of all kinds.
func mixed(n, seed int) string {
	b := make([]byte, n)
	x := uint32(seed)*2654435761 + 1
	for i := range b {
		x = x*1664525 + 1013904223
		b[i] = byte(x >> 24)
	}
	return string(b)
}

func strs() []string {
	all := []string{"", "a", "ab", "aaaaa", "abcdefgh", "abcdefghi", "\x00\x00\x00", strings.Repeat("a", 600), strings.Repeat("ab", 300)}
	for _, n := range []int{7, 8, 9, 50, 599, 600} {
		all = append(all, mixed(n, n))
	}
	return all
}

// slowPrint divides bit by bit, by the modulus Small.
func slowPrint(s string) int {
	p := 1
	for i := range len(s) {
		for bit := 7; bit >= 0; bit-- {
			p = p<<1 | int(s[i]>>bit)&1
			if p >= 1<<16 {
				p ^= 65581
			}
		}
	}
	return p
}

// cuttable tells whether the chunk that begins at b ends at e, if no
// earlier end was found.
func cuttable(s string, b, e, least, most, mask int) bool {
	if e == len(s) {
		return true
	}
	if e < b+least {
		return false
	}
	from := b
	if e-b > 8 {
		from = e - 8
	}
	return e-b == most || slowPrint(s[from:e])&mask == mask
}

func slowEnds(s string, least, most, mask int) []int {
	var ends []int
	b := 0
	for e := 1; e <= len(s); e++ {
		if cuttable(s, b, e, least, most, mask) {
			ends = append(ends, e)
			b = e
		}
	}
	return ends
}

func TestEndsExamplesP14(t *testing.T) {
	for _, c := range []struct {
		s                 string
		least, most, mask int
		want              []int
	}{
		{"aaaaa", 2, 2, 65535, []int{2, 4, 5}},
		{"aaaaa", 1, 2, 65535, []int{2, 4, 5}},
		{"aaaaa", 2, 9, 0, []int{2, 4, 5}},
		{"aaaaa", 1, 600, 0, []int{1, 2, 3, 4, 5}},
		{"aaaaa", 5, 600, 0, []int{5}},
		{"aaaaa", 6, 6, 0, []int{5}},
		{"aaaaa", 600, 600, 0, []int{5}},
		{"aaaaa", 4, 4, 0, []int{4, 5}},
		{"", 1, 1, 0, nil},
		{"", 600, 600, 65535, nil},
		{"a", 1, 1, 65535, []int{1}},
		// The fingerprint of one byte is that byte behind a 1: 256 + 97.
		{"aba", 1, 600, 256 + 97, []int{1, 3}},
		{"aba", 1, 600, 256 + 96, []int{1, 2, 3}},
		// That of "ab" is 0x16162 less the modulus, which is 0x614f.
		{"aba", 1, 600, 2, []int{2, 3}},
		{"aba", 1, 600, 16, []int{3}},
		// That of two bytes of 0 is the rest of 2^16, which is 45.
		{"\x00\x00\x00", 1, 600, 45, []int{2, 3}},
	} {
		if got, e := Ends(c.s, c.least, c.most, c.mask); !slices.Equal(got, c.want) || e != api.OK {
			t.Error(c, got, e)
		}
	}
}

func TestEndsP14(t *testing.T) {
	masks := []int{0, 1, 2, 3, 5, 7, 15, 31, 255, 32768, 65535}
	for p := range 16 {
		masks = append(masks, 1<<p)
	}
	for _, s := range strs() {
		for _, least := range []int{1, 2, 7, 8, 9, 30, 600} {
			for _, more := range []int{0, 1, 7, 9, 64, 600} {
				for _, mask := range masks {
					most := min(least+more, 600)
					got, e := Ends(s, least, most, mask)
					if !slices.Equal(got, slowEnds(s, least, most, mask)) || e != api.OK {
						t.Fatalf("%q %d %d %d: %d %d", s, least, most, mask, got, e)
					}
				}
			}
		}
	}
}

// A chunk is cut by what stands in its last eight bytes, so equal ends of two
// strings are cut alike, once both have been cut at one place.
func TestEndsFollowContentP14(t *testing.T) {
	tail := mixed(400, 3)
	a, _ := Ends(mixed(100, 1)+tail, 4, 600, 7)
	b, _ := Ends(mixed(150, 2)+tail, 4, 600, 7)
	common := 0
	for _, end := range a {
		if end > 100 && slices.Contains(b, end+50) {
			common++
		}
	}
	if common < 10 {
		t.Error(a, b)
	}
}

func TestEndsErrorsP14(t *testing.T) {
	long := strings.Repeat("a", api.MaxBytes+1)
	for _, c := range [][3]int{{1, 1, 0}, {0, 0, 0}, {-1, 700, -1}, {2, 1, 65536}} {
		if ends, e := Ends(long, c[0], c[1], c[2]); len(ends) != 0 || e != api.ErrLarge {
			t.Error(c, ends, e)
		}
	}
	for _, c := range [][3]int{
		{0, 1, 0}, {-1, 1, 0}, {math.MinInt, 1, 0}, {0, 0, 0},
		{2, 1, 0}, {1, 0, 0}, {math.MaxInt, 1, 0}, {1, math.MinInt, 0},
		{1, 601, 0}, {1, math.MaxInt, 0}, {601, 601, 0}, {601, 600, 0}, {math.MaxInt, math.MaxInt, 0},
		{1, 1, -1}, {1, 1, 65536}, {1, 1, math.MaxInt}, {1, 1, math.MinInt},
	} {
		for _, s := range []string{"", "a", long[1:]} {
			if ends, e := Ends(s, c[0], c[1], c[2]); len(ends) != 0 || e != api.ErrArg {
				t.Error(c, len(s), ends, e)
			}
		}
	}
}

func TestSplitP15(t *testing.T) {
	for _, c := range []struct {
		s    string
		ends []int
		want []string
	}{
		{"abcde", []int{2, 5}, []string{"ab", "cde"}},
		{"abcde", []int{5}, []string{"abcde"}},
		{"abc", []int{1, 2, 3}, []string{"a", "b", "c"}},
		{"", nil, nil},
		{"", []int{}, nil},
		{"\x00\xff", []int{1, 2}, []string{"\x00", "\xff"}},
	} {
		if got, e := Split(c.s, c.ends); !slices.Equal(got, c.want) || e != api.OK {
			t.Error(c, got, e)
		}
	}
}

func TestSplitGivesAllBytesP15(t *testing.T) {
	for _, s := range strs() {
		for _, mask := range []int{0, 1, 3, 7} {
			ends, _ := Ends(s, 1, 40, mask)
			chunks, e := Split(s, ends)
			if e != api.OK || len(chunks) != len(ends) || strings.Join(chunks, "") != s {
				t.Fatalf("%q %d: %d %q %d", s, mask, ends, chunks, e)
			}
			at := 0
			for i, chunk := range chunks {
				at += len(chunk)
				if at != ends[i] {
					t.Fatalf("%q %d: %d %q", s, mask, ends, chunks)
				}
			}
		}
	}
}

func TestSplitErrorsP15(t *testing.T) {
	for _, ends := range [][]int{
		nil, {}, {2}, {4}, {6}, {0}, {-1}, {0, 5}, {-1, 5}, {5, 5}, {2, 2, 5}, {3, 2, 5}, {2, 5, 5}, {2, 6}, {6, 5}, {5, 0}, {5, 2},
		{math.MaxInt}, {math.MinInt}, {math.MinInt, 5}, {5, math.MaxInt},
	} {
		if chunks, e := Split("abcde", ends); len(chunks) != 0 || e != api.ErrForm {
			t.Error(ends, chunks, e)
		}
	}
	for _, ends := range [][]int{{0}, {1}, {-1}, {0, 0}, {-1, 0}} {
		if chunks, e := Split("", ends); len(chunks) != 0 || e != api.ErrForm {
			t.Error(ends, chunks, e)
		}
	}
	long := strings.Repeat("a", api.MaxBytes+1)
	for _, ends := range [][]int{nil, {601}, {5}} {
		if chunks, e := Split(long, ends); len(chunks) != 0 || e != api.ErrLarge {
			t.Error(ends, chunks, e)
		}
	}
	if chunks, e := Split(long[1:], []int{600}); len(chunks) != 1 || e != api.OK {
		t.Error(chunks, e)
	}
}

func TestSplitLeavesItsArgumentsP2(t *testing.T) {
	s := mixed(40, 1)
	spare := []int{10, 20, 40, -7, -8}
	chunks, _ := Split(s, spare[:3])
	if !slices.Equal(spare, []int{10, 20, 40, -7, -8}) {
		t.Error(spare)
	}
	from := uintptr(unsafe.Pointer(unsafe.StringData(s)))
	for _, chunk := range chunks {
		at := uintptr(unsafe.Pointer(unsafe.StringData(chunk)))
		if at >= from && at < from+uintptr(len(s)) {
			t.Error("a chunk lies in the string that was divided")
		}
	}
}

func TestEndsAreNewMemoryP2(t *testing.T) {
	a, _ := Ends("aaaaa", 1, 2, 65535)
	for i := range a[:cap(a)] {
		a[:cap(a)][i] = -1
	}
	if b, _ := Ends("aaaaa", 1, 2, 65535); !slices.Equal(b, []int{2, 4, 5}) {
		t.Error(b)
	}
}
