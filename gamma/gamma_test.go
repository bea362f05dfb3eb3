package gamma

import (
	"math"
	"strings"
	"testing"

	"woolsack/api"
)

// slowDigits takes the digits of n from the least on.
func slowDigits(n int) string {
	s := ""
	for ; n > 0; n /= 2 {
		s = string(rune('0'+n%2)) + s
	}
	return s
}

func slowGamma(n int) string {
	d := slowDigits(n)
	return strings.Repeat("0", len(d)-1) + d
}

func slowDelta(n int) string {
	d := slowDigits(n)
	return slowGamma(len(d)) + d[1:]
}

// numbers lists small numbers, and those near the powers of 2.
func numbers() []int {
	var l []int
	for n := 1; n <= 300; n++ {
		l = append(l, n)
	}
	for k := 9; k <= 31; k++ {
		l = append(l, 1<<k-2, 1<<k-1)
		if k < 31 {
			l = append(l, 1<<k, 1<<k+1, 1<<k+1<<(k/2)+5)
		}
	}
	return append(l, 1234567890, 0x55555555, 0x2aaaaaaa, 0x7ffffffe)
}

// allBits lists the bits of up to n characters.
func allBits(n int) []string {
	l := []string{""}
	for i := 0; len(l[i]) < n; i++ {
		l = append(l, l[i]+"0", l[i]+"1")
	}
	return l
}

// notBits lists strings with a character that is no bit.
func notBits() []string {
	l := []string{"0a1", "\n", " 1", "1 ", "-1", "+1", "0b1", "0x1", "1_1", "01.", "\u0660", "1\u0661", "O1", "l"}
	many := strings.Repeat("0", 40)
	for _, c := range []string{"2", "/", "\x00", "\x01", "\x80", "\xb0", "\xb1", "\xff"} {
		l = append(l, c, c+"1", "1"+c, "0"+c, "00"+c, "0010"+c, "00101"+c, "1"+many+c, many+c, c+many, many+c+many, "00101"+many+many+c, "01101"+many+many+c+many)
	}
	return l
}

func isError(n, k int, e, want api.Errno) bool {
	return n == 0 && k == 0 && e == want
}

func TestGammaP19(t *testing.T) {
	for n, want := range map[int]string{
		1: "1", 2: "010", 3: "011", 4: "00100", 5: "00101", 7: "00111", 8: "0001000",
		1<<30 - 1: strings.Repeat("0", 29) + strings.Repeat("1", 30),
		1 << 30:   strings.Repeat("0", 30) + "1" + strings.Repeat("0", 30),
		1<<31 - 1: strings.Repeat("0", 30) + strings.Repeat("1", 31),
	} {
		if s, e := Gamma(n); s != want || e != api.OK {
			t.Error(n, s, e)
		}
	}
	for _, n := range numbers() {
		if s, e := Gamma(n); s != slowGamma(n) || e != api.OK {
			t.Fatal(n, s, e)
		}
	}
}

// beyond lists what has no code.
func beyond() []int {
	return []int{0, -1, -2, -5, 1 << 31, 1<<31 + 1, 1 << 32, 1<<32 + 5, 1 << 40, -1 << 31, math.MaxInt, math.MinInt}
}

func TestGammaErrorsP19(t *testing.T) {
	for _, n := range beyond() {
		if s, e := Gamma(n); s != "" || e != api.ErrArg {
			t.Error(n, s, e)
		}
	}
}

func TestReadGammaP20(t *testing.T) {
	for _, n := range numbers() {
		code := slowGamma(n)
		for _, rest := range []string{"", "0", "1", "01", strings.Repeat("0", 100), strings.Repeat("1", 100)} {
			if m, k, e := ReadGamma(code + rest); m != n || k != len(code) || e != api.OK {
				t.Fatal(n, rest, m, k, e)
			}
		}
		for i := range len(code) {
			if m, k, e := ReadGamma(code[:i]); !isError(m, k, e, api.ErrShort) {
				t.Fatal(code[:i], m, k, e)
			}
		}
	}
}

// begins answers the number whose code s begins with, and the code's
// length, or zeros if there is none up to 2^14.
func begins(s string, code func(int) string) (int, int) {
	for n := 1; n < 1<<14 && len(code(n)) <= len(s); n++ {
		if strings.HasPrefix(s, code(n)) {
			return n, len(code(n))
		}
	}
	return 0, 0
}

func TestReadGammaOfAllBitsP20(t *testing.T) {
	for _, s := range allBits(11) {
		n, k := begins(s, slowGamma)
		want := api.OK
		if n == 0 {
			want = api.ErrShort
		}
		if m, l, e := ReadGamma(s); m != n || l != k || e != want {
			t.Fatal(s, m, l, e)
		}
	}
}

func TestReadGammaErrorsP20(t *testing.T) {
	for _, s := range notBits() {
		if m, k, e := ReadGamma(s); !isError(m, k, e, api.ErrForm) {
			t.Errorf("%q: %d %d %d", s, m, k, e)
		}
	}
	for zeros := 0; zeros <= 100; zeros++ {
		want := api.ErrShort
		if zeros > 30 {
			want = api.ErrLarge
		}
		// Both with a 1 behind the zeros and with none.
		for _, rest := range []string{"", "1"} {
			if zeros == 0 && rest == "1" {
				continue
			}
			s := strings.Repeat("0", zeros) + rest
			if m, k, e := ReadGamma(s); !isError(m, k, e, want) {
				t.Error(s, m, k, e)
			}
		}
	}
	for _, zeros := range []int{31, 32, 63, 64, 1000} {
		s := strings.Repeat("0", zeros) + strings.Repeat("1", zeros+1)
		if m, k, e := ReadGamma(s); !isError(m, k, e, api.ErrLarge) {
			t.Error(s, m, k, e)
		}
	}
}

func TestDeltaP21(t *testing.T) {
	for n, want := range map[int]string{
		1: "1", 2: "0100", 3: "0101", 4: "01100", 5: "01101", 7: "01111", 8: "00100000", 16: "001010000",
		1 << 30:   "000011111" + strings.Repeat("0", 30),
		1<<31 - 1: "000011111" + strings.Repeat("1", 30),
	} {
		if s, e := Delta(n); s != want || e != api.OK {
			t.Error(n, s, e)
		}
	}
	for _, n := range numbers() {
		if s, e := Delta(n); s != slowDelta(n) || e != api.OK {
			t.Fatal(n, s, e)
		}
	}
}

func TestDeltaErrorsP21(t *testing.T) {
	for _, n := range beyond() {
		if s, e := Delta(n); s != "" || e != api.ErrArg {
			t.Error(n, s, e)
		}
	}
}

func TestReadDeltaP21(t *testing.T) {
	for _, n := range numbers() {
		code := slowDelta(n)
		for _, rest := range []string{"", "0", "1", "01", strings.Repeat("0", 100), strings.Repeat("1", 100)} {
			if m, k, e := ReadDelta(code + rest); m != n || k != len(code) || e != api.OK {
				t.Fatal(n, rest, m, k, e)
			}
		}
		for i := range len(code) {
			if m, k, e := ReadDelta(code[:i]); !isError(m, k, e, api.ErrShort) {
				t.Fatal(code[:i], m, k, e)
			}
		}
	}
}

func TestReadDeltaOfAllBitsP21(t *testing.T) {
	for _, s := range allBits(12) {
		n, k := begins(s, slowDelta)
		want := api.OK
		if n == 0 {
			want = api.ErrShort
			if count, _ := begins(s, slowGamma); count > 31 {
				want = api.ErrLarge
			}
		}
		if m, l, e := ReadDelta(s); m != n || l != k || e != want {
			t.Fatal(s, m, l, e)
		}
	}
}

func TestReadDeltaErrorsP21(t *testing.T) {
	for _, s := range notBits() {
		if m, k, e := ReadDelta(s); !isError(m, k, e, api.ErrForm) {
			t.Errorf("%q: %d %d %d", s, m, k, e)
		}
	}
	for _, count := range []int{32, 33, 63, 64, 100, 1 << 20, 1<<31 - 1} {
		// Too many digits are told even where they are not there.
		for _, rest := range []string{"", "1", strings.Repeat("01", 200)} {
			if m, k, e := ReadDelta(slowGamma(count) + rest); !isError(m, k, e, api.ErrLarge) {
				t.Error(count, rest, m, k, e)
			}
		}
	}
	for _, zeros := range []int{31, 32, 100} {
		for _, rest := range []string{"", "1", strings.Repeat("1", 200)} {
			if m, k, e := ReadDelta(strings.Repeat("0", zeros) + rest); !isError(m, k, e, api.ErrLarge) {
				t.Error(zeros, rest, m, k, e)
			}
		}
	}
	for zeros := 0; zeros <= 30; zeros++ {
		if m, k, e := ReadDelta(strings.Repeat("0", zeros)); !isError(m, k, e, api.ErrShort) {
			t.Error(zeros, m, k, e)
		}
	}
}
