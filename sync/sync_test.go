package sync

import (
	"slices"
	"strings"
	"testing"

	"woolsack/api"
	"woolsack/print"
)

// sum answers the hash of a preimage.
func sum(preimage string) int {
	p, _ := print.Of(1073741907, preimage)
	return p
}

func fourBytes(n int) string {
	return string([]byte{byte(n >> 24), byte(n >> 16), byte(n >> 8), byte(n)})
}

// levels answers the hashes of a tree, the lowest level first.
func levels(l []string) [][]int {
	var level []int
	for _, text := range l {
		level = append(level, sum("l"+text))
	}
	all := [][]int{level}
	for len(level) > 1 {
		var next []int
		for two := range slices.Chunk(level, 2) {
			if len(two) == 2 {
				next = append(next, sum("n"+fourBytes(two[0])+fourBytes(two[1])))
			} else {
				next = append(next, two[0])
			}
		}
		level = next
		all = append(all, level)
	}
	return all
}

// walk goes down two trees level by level, where the package takes the lists
// apart.
type walk struct {
	x, y [][]int
	at   []int
	many int
}

func (w *walk) compare(k, i int) {
	// A copied hash is compared where it comes from.
	for k > 0 && 2*i+1 == len(w.x[k-1]) {
		k, i = k-1, 2*i
	}
	w.many++
	switch {
	case w.x[k][i] == w.y[k][i]:
	case k == 0:
		w.at = append(w.at, i)
	default:
		w.compare(k-1, 2*i)
		w.compare(k-1, 2*i+1)
	}
}

func walked(a, b []string) ([]int, int) {
	w := walk{x: levels(a), y: levels(b)}
	w.compare(len(w.x)-1, 0)
	return w.at, w.many
}

// some makes n strings.
func some(n int) []string {
	l := make([]string, n)
	for i := range l {
		l[i] = strings.Repeat(string([]byte{byte(i * 37)}), i*2)
	}
	return l
}

// with changes the strings at the indices.
func with(l []string, at ...int) []string {
	other := slices.Clone(l)
	for _, i := range at {
		other[i] += "z"
	}
	return other
}

func compares(t *testing.T, a, b []string, at []int, many int) {
	t.Helper()
	for _, pair := range [][2][]string{{a, b}, {b, a}} {
		found, n, e := Compare(pair[0], pair[1])
		if e != api.OK || n != many || !slices.Equal(found, at) {
			t.Errorf("%q %q: %v %d %d, want %v %d", pair[0], pair[1], found, n, e, at, many)
		}
	}
}

func TestCompareP46(t *testing.T) {
	for _, c := range []struct {
		n    int
		at   []int
		many int
	}{
		{1, []int{0}, 1},
		{2, []int{0}, 3}, {2, []int{1}, 3}, {2, []int{0, 1}, 3},
		{3, []int{0}, 5}, {3, []int{2}, 3}, {3, []int{1, 2}, 5},
		{5, []int{4}, 3}, {5, []int{0}, 7}, {5, []int{0, 4}, 7}, {5, []int{0, 1, 2, 3, 4}, 9},
		{6, []int{5}, 5}, {7, []int{6}, 5}, {7, []int{4}, 7},
		{31, []int{30}, 9}, {31, []int{29}, 11}, {32, []int{31}, 11}, {32, []int{15, 16}, 19},
		{17, []int{16}, 3}, {17, []int{0}, 11},
	} {
		compares(t, some(c.n), with(some(c.n), c.at...), c.at, c.many)
	}
	for n := 1; n <= 32; n++ {
		var all []int
		for i := range n {
			all = append(all, i)
		}
		compares(t, some(n), some(n), nil, 1)
		// All hashes are compared: the leaves, and one less that are pairs.
		compares(t, some(n), with(some(n), all...), all, 2*n-1)
	}
}

func TestCompareOfSubsetsP46(t *testing.T) {
	for n := 1; n <= 8; n++ {
		for set := range 1 << n {
			var at []int
			for i := range n {
				if set>>i&1 == 1 {
					at = append(at, i)
				}
			}
			a, b := some(n), with(some(n), at...)
			_, many := walked(a, b)
			compares(t, a, b, at, many)
		}
	}
	for n := 9; n <= 32; n++ {
		for i := range n {
			for _, at := range [][]int{{i}, {i / 2, i/2 + n/2}, {0, i/3 + 1, n - 1}} {
				at = slices.Compact(slices.Sorted(slices.Values(at)))
				a, b := some(n), with(some(n), at...)
				_, many := walked(a, b)
				compares(t, a, b, at, many)
			}
		}
	}
}

// withSum makes a string whose leaf has the hash p.
func withSum(p int) string {
	return fourBytes(p ^ sum("l\x00\x00\x00\x00"))
}

// What has the same hash is not examined, though it differs.
func TestCompareOfClashesP46(t *testing.T) {
	other := withSum(sum("l"))
	compares(t, []string{""}, []string{other}, nil, 1)
	compares(t, []string{"", "a", ""}, []string{other, "b", other}, []int{1}, 5)
	// Both leaves change, but not the hash of their pair.
	top, e := print.Join(1073741907, 7, 1, 4)
	one, f := print.Join(1073741907, 0, 1, 4)
	x, y := []string{withSum(0), withSum(0)}, []string{withSum(7), withSum(top ^ one)}
	if e != api.OK || f != api.OK || levels(x)[1][0] != levels(y)[1][0] || levels(x)[0][0] == levels(y)[0][0] {
		t.Fatal(x, y)
	}
	compares(t, x, y, nil, 1)
	compares(t, append(slices.Clone(x), "a", "b"), append(slices.Clone(y), "a", "c"), []int{3}, 5)
	compares(t, append(slices.Clone(x), "a"), append(slices.Clone(y), "b"), []int{2}, 3)
}

func fails(t *testing.T, a, b []string, want api.Errno) {
	t.Helper()
	if at, many, e := Compare(a, b); len(at) != 0 || many != 0 || e != want {
		t.Errorf("%d %d: %v %d %d, want %d", len(a), len(b), at, many, e, want)
	}
}

func TestCompareErrorsP46(t *testing.T) {
	long := []string{strings.Repeat("a", 65)}
	full := make([]string, 32)
	full[31] = long[0]
	for _, l := range [][]string{long, full, make([]string, 33), slices.Repeat(long, 1000)} {
		fails(t, l, l, api.ErrLarge)
		for _, good := range [][]string{{"a"}, some(32)} {
			fails(t, l, good, api.ErrLarge)
			fails(t, good, l, api.ErrLarge)
			fails(t, nil, good, api.ErrNone)
			fails(t, good, []string{}, api.ErrNone)
		}
		// Of two wrong lists the first one tells.
		fails(t, l, nil, api.ErrLarge)
		fails(t, nil, l, api.ErrNone)
	}
	fails(t, nil, nil, api.ErrNone)
	for n := 1; n <= 32; n++ {
		for _, m := range []int{1, n - 1, n + 1, 32} {
			if m != n && m > 0 && m <= 32 {
				fails(t, some(n), some(m), api.ErrLen)
				fails(t, some(m), some(n), api.ErrLen)
			}
		}
	}
	block := []string{strings.Repeat("a", 64)}
	compares(t, block, []string{strings.Repeat("a", 63)}, []int{0}, 1)
}

func TestArgumentsStayAndResultsAreNewP2(t *testing.T) {
	for n := 1; n <= 32; n++ {
		x, y := some(n), with(some(n), 0, n-1)
		a := append(some(n), "mark")[:n]
		b := append(with(some(n), 0, n-1), "mark")[:n]
		at, _, _ := Compare(a, b)
		given := slices.Clone(at)
		again, _, _ := Compare(a, b)
		for i := range again[:cap(again)] {
			again[:cap(again)][i] = -1
		}
		if !slices.Equal(at, given) || !slices.Equal(a, x) || !slices.Equal(b, y) || a[:n+1][n] != "mark" || b[:n+1][n] != "mark" {
			t.Error(n, at, a, b)
		}
	}
}
