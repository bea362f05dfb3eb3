package tree

import (
	"math"
	"math/bits"
	"slices"
	"strings"
	"testing"
	"unsafe"

	"woolsack/api"
)

// slowSum divides the polynomial of a string, bit by bit, by the modulus.
func slowSum(s string) int {
	rest := 1
	for i := range len(s) {
		for bit := 7; bit >= 0; bit-- {
			rest = rest<<1 | int(s[i]>>bit)&1
			if rest>>30&1 == 1 {
				rest ^= 1073741907
			}
		}
	}
	return rest
}

// slowPair writes the preimage of two hashes digit by digit.
func slowPair(a, b int) string {
	all := []byte("n")
	for _, h := range []int{a, b} {
		for _, place := range []int{1 << 24, 1 << 16, 1 << 8, 1} {
			all = append(all, byte(h/place%256))
		}
	}
	return string(all)
}

// middle is how many of n strings stand below the first hash of the root's
// pair.
func middle(n int) int {
	half := 1
	for half*2 < n {
		half *= 2
	}
	return half
}

// slowRoot works from the root down, where the package works from the leaves
// up.
func slowRoot(l []string) int {
	if len(l) == 1 {
		return slowSum("l" + l[0])
	}
	half := middle(len(l))
	return slowSum(slowPair(slowRoot(l[:half]), slowRoot(l[half:])))
}

func slowProof(l []string, i int) []api.Step {
	if len(l) == 1 {
		return nil
	}
	half := middle(len(l))
	if i < half {
		return append(slowProof(l[:half], i), api.Step{Sum: slowRoot(l[half:])})
	}
	return append(slowProof(l[half:], i-half), api.Step{Left: true, Sum: slowRoot(l[:half])})
}

// node of a tree: its level from the lowest one on, its first string, and its
// preimage.
type node struct {
	level, first int
	preimage     string
}

// nodes lists those that are computed from pairs.
func nodes(l []string, first int) []node {
	if len(l) == 1 {
		return nil
	}
	half := middle(len(l))
	own := node{bits.Len(uint(len(l) - 1)), first, slowPair(slowRoot(l[:half]), slowRoot(l[half:]))}
	return slices.Concat([]node{own}, nodes(l[:half], first), nodes(l[half:], first+half))
}

// slowClash sorts all nodes into the order of the search.
func slowClash(a, b []string) (string, string) {
	x, y := nodes(a, 0), nodes(b, 0)
	order := func(p, q node) int {
		if p.level != q.level {
			return q.level - p.level
		}
		return p.first - q.first
	}
	slices.SortFunc(x, order)
	slices.SortFunc(y, order)
	for i := range x {
		if x[i].preimage != y[i].preimage {
			return x[i].preimage, y[i].preimage
		}
	}
	for i := range a {
		if a[i] != b[i] {
			return "l" + a[i], "l" + b[i]
		}
	}
	return "", ""
}

// numbers are some that look as if they followed no rule.
func numbers(seed uint32) func(below int) int {
	x := seed*2654435761 + 1
	return func(below int) int {
		x = x*1664525 + 1013904223
		return int(x>>4) % below
	}
}

// some makes n strings of all lengths and bytes.
func some(n int, seed uint32) []string {
	next := numbers(seed)
	l := make([]string, n)
	for i := range l {
		b := make([]byte, next(api.MaxBlock+1))
		for j := range b {
			b[j] = byte(next(256))
		}
		l[i] = string(b)
	}
	return l
}

// withSum makes a string of four bytes behind the prefix whose leaf has the
// hash sum.
func withSum(sum int, prefix string) string {
	n := sum ^ slowSum("l"+prefix+"\x00\x00\x00\x00")
	return prefix + string([]byte{byte(n >> 24), byte(n >> 16), byte(n >> 8), byte(n)})
}

// withSums makes strings whose leaves have these hashes.
func withSums(sums ...int) []string {
	l := make([]string, len(sums))
	for i, sum := range sums {
		l[i] = withSum(sum, "")
	}
	return l
}

// up answers by how much a hash changes if the first of its two hashes does
// so by d: all is linear.
func up(d int) int {
	for range 32 {
		d <<= 1
		if d>>30 == 1 {
			d ^= 1073741907
		}
	}
	return d
}

// change answers by how much the root changes if the hashes of the leaves do.
func change(d []int) int {
	if len(d) == 1 {
		return d[0]
	}
	half := middle(len(d))
	return up(change(d[:half])) ^ change(d[half:])
}

// apart answers two lists of which the hashes of the leaves differ by d.
func apart(d ...int) ([]string, []string) {
	x, y := make([]int, len(d)), make([]int, len(d))
	for i := range d {
		x[i] = 1000 + i
		y[i] = x[i] ^ d[i]
	}
	return withSums(x...), withSums(y...)
}

func checks(t *testing.T, l []string, want api.Errno) {
	t.Helper()
	if e := Check(l); e != want {
		t.Errorf("%d strings: %d, want %d", len(l), e, want)
	}
}

func TestCheckP41(t *testing.T) {
	for n := 1; n <= 32; n++ {
		checks(t, make([]string, n), api.OK)
		checks(t, some(n, uint32(n)), api.OK)
		checks(t, slices.Repeat([]string{strings.Repeat("\xff", 64)}, n), api.OK)
	}
	checks(t, nil, api.ErrNone)
	checks(t, []string{}, api.ErrNone)
	for _, n := range []int{33, 34, 64, 1000} {
		checks(t, make([]string, n), api.ErrLarge)
	}
}

// wrongLists are lists that are not valid, by their errors.
func wrongLists() map[api.Errno][][]string {
	long := strings.Repeat("a", 65)
	var large [][]string
	for _, at := range []int{0, 1, 31} {
		for _, text := range []string{long, strings.Repeat("b", 1<<20)} {
			l := make([]string, 32)
			l[at] = text
			large = append(large, l)
		}
	}
	large = append(large, []string{long}, make([]string, 33), slices.Repeat([]string{long}, 33), slices.Repeat([]string{"a"}, 5000))
	return map[api.Errno][][]string{api.ErrNone: {nil, {}}, api.ErrLarge: large}
}

func rootFails(t *testing.T, l []string, want api.Errno) {
	t.Helper()
	if sum, e := Root(l); sum != 0 || e != want {
		t.Errorf("Root of %d: %d %d, want %d", len(l), sum, e, want)
	}
}

func proofFails(t *testing.T, l []string, i int, want api.Errno) {
	t.Helper()
	if proof, e := Proof(l, i); len(proof) != 0 || e != want {
		t.Errorf("Proof of %d, %d: %v %d, want %d", len(l), i, proof, e, want)
	}
}

func clashFails(t *testing.T, a, b []string, want api.Errno) {
	t.Helper()
	if p, q, e := Clash(a, b); p != "" || q != "" || e != want {
		t.Errorf("Clash of %d, %d: %q %q %d, want %d", len(a), len(b), p, q, e, want)
	}
}

func TestListsAreCheckedP41P42P43P45(t *testing.T) {
	for want, lists := range wrongLists() {
		for _, l := range lists {
			checks(t, l, want)
			rootFails(t, l, want)
			for _, i := range []int{0, -1, 1, 31, 32, 33, math.MinInt, math.MaxInt} {
				proofFails(t, l, i, want)
			}
			for _, good := range [][]string{{"a"}, make([]string, 32)} {
				clashFails(t, l, good, want)
				clashFails(t, good, l, want)
			}
			clashFails(t, l, nil, want)
			clashFails(t, l, l, want)
			clashFails(t, l, make([]string, 33), want)
			clashFails(t, nil, l, api.ErrNone)
			clashFails(t, make([]string, 33), l, api.ErrLarge)
		}
	}
}

func roots(t *testing.T, l []string, want int) {
	t.Helper()
	if sum, e := Root(l); sum != want || e != api.OK {
		t.Errorf("%q: %d %d, want %d", l, sum, e, want)
	}
}

func TestRootP42(t *testing.T) {
	for _, text := range []string{"", "a", "l", "n", "\x00", "\x00\x00", "\xff\xff\xff\xff", "é", strings.Repeat("\xff", 64)} {
		roots(t, []string{text}, slowSum("l"+text))
	}
	// Few bytes are less than the modulus: a 1, the l, and a, b, c.
	roots(t, []string{"a"}, 1<<16|'l'<<8|'a')
	la, lb, lc := slowSum("la"), slowSum("lb"), slowSum("lc")
	ab := slowSum("n" + "\x00\x01la" + "\x00\x01lb")
	roots(t, []string{"a", "b"}, ab)
	roots(t, []string{"b", "a"}, slowSum(slowPair(lb, la)))
	roots(t, []string{"a", "b", "c"}, slowSum(slowPair(ab, lc)))
	roots(t, []string{"a", "b", "a", "b"}, slowSum(slowPair(ab, ab)))
	roots(t, []string{"a", "b", "a", "b", "c"}, slowSum(slowPair(slowSum(slowPair(ab, ab)), lc)))
	// Hashes with all of their bits and none.
	full := 1<<30 - 1
	roots(t, withSums(full, 0), slowSum("n\x3f\xff\xff\xff\x00\x00\x00\x00"))
	roots(t, withSums(0, full), slowSum("n\x00\x00\x00\x00\x3f\xff\xff\xff"))
	roots(t, withSums(0, 0), slowSum("n\x00\x00\x00\x00\x00\x00\x00\x00"))
}

func TestRootOfAllLengthsP42(t *testing.T) {
	for n := 1; n <= 32; n++ {
		for seed := range uint32(4) {
			l := some(n, seed)
			roots(t, l, slowRoot(l))
		}
		roots(t, make([]string, n), slowRoot(make([]string, n)))
	}
}

func TestProofP43(t *testing.T) {
	la, lb, lc := slowSum("la"), slowSum("lb"), slowSum("lc")
	ab := slowSum(slowPair(la, lb))
	for i, want := range [][]api.Step{
		{{Sum: lb}, {Sum: lc}},
		{{Left: true, Sum: la}, {Sum: lc}},
		{{Left: true, Sum: ab}},
	} {
		if proof, e := Proof([]string{"a", "b", "c"}, i); e != api.OK || !slices.Equal(proof, want) {
			t.Error(i, proof, e, want)
		}
	}
	for n := 1; n <= 32; n++ {
		l := some(n, uint32(n))
		for i := range l {
			if proof, e := Proof(l, i); e != api.OK || !slices.Equal(proof, slowProof(l, i)) {
				t.Error(n, i, proof, e, slowProof(l, i))
			}
		}
		for _, i := range []int{-1, n, n + 1, 32, 33, math.MinInt, math.MaxInt} {
			proofFails(t, l, i, api.ErrArg)
		}
	}
}

func verifies(t *testing.T, root, n, i int, text string, proof []api.Step, want bool) {
	t.Helper()
	if is, e := Verify(root, n, i, text, proof); is != want || e != api.OK {
		t.Errorf("%d %d %d %q %v: %v %d, want %v", root, n, i, text, proof, is, e, want)
	}
}

func TestVerifyP44(t *testing.T) {
	for n := 1; n <= 32; n++ {
		l := some(n, uint32(n))
		root := slowRoot(l)
		for i, text := range l {
			proof := slowProof(l, i)
			verifies(t, root, n, i, text, proof, true)
			verifies(t, root, n, i, text[:len(text)/2]+"z", proof, false)
			for _, other := range []int{root + 1, root ^ 1<<29, 0, -1, ^root, root | 1<<30, root | 1<<32, -root, math.MinInt, math.MaxInt} {
				verifies(t, other, n, i, text, proof, false)
			}
		}
	}
	verifies(t, slowSum("l"), 1, 0, "", nil, true)
	verifies(t, slowSum("l"), 1, 0, "", []api.Step{}, true)
}

// spoiled lists proofs that have other steps than the proof, one by one.
func spoiled(proof []api.Step) [][]api.Step {
	var all [][]api.Step
	for k, s := range proof {
		for _, other := range []api.Step{
			{Left: !s.Left, Sum: s.Sum},
			{Left: s.Left, Sum: s.Sum ^ 1},
			{Left: s.Left, Sum: s.Sum | 1<<31},
			// These have the same last four bytes.
			{Left: s.Left, Sum: s.Sum + 1<<32},
			{Left: s.Left, Sum: s.Sum - 1<<32},
		} {
			l := slices.Clone(proof)
			l[k] = other
			all = append(all, l)
		}
		all = append(all, slices.Delete(slices.Clone(proof), k, k+1), proof[:k])
	}
	for k := range len(proof) + 1 {
		for _, s := range []api.Step{{}, {Left: true}, {Sum: 5}, {Left: true, Sum: 5}} {
			all = append(all, slices.Insert(slices.Clone(proof), k, s))
		}
	}
	return append(all, slices.Concat(proof, make([]api.Step, 100)))
}

func TestVerifyStepsP44(t *testing.T) {
	for _, n := range []int{1, 2, 3, 5, 6, 7, 8, 13, 31, 32} {
		l := some(n, uint32(n))
		for i, text := range l {
			for _, other := range spoiled(slowProof(l, i)) {
				verifies(t, slowRoot(l), n, i, text, other, false)
			}
		}
	}
}

// shape answers on which sides the steps of a proof are.
func shape(n, i int) []bool {
	var sides []bool
	for _, s := range slowProof(make([]string, n), i) {
		sides = append(sides, s.Left)
	}
	return sides
}

// A proof holds for all lengths and indices for which Proof has the same
// sides, and for no others.
func TestVerifyShapesP44(t *testing.T) {
	shapes := map[[2]int][]bool{}
	for n := 1; n <= 32; n++ {
		for i := range n {
			shapes[[2]int{n, i}] = shape(n, i)
		}
	}
	for _, n := range []int{1, 2, 3, 5, 6, 8, 11, 17, 32} {
		l := some(n, uint32(n))
		root := slowRoot(l)
		for i, text := range l {
			proof, own := slowProof(l, i), shapes[[2]int{n, i}]
			for other, sides := range shapes {
				verifies(t, root, other[0], other[1], text, proof, slices.Equal(sides, own))
			}
		}
	}
}

// Sums of 31 bits are no hashes, yet steps may have them; those of 32 bits
// may not stand in a step, though four bytes would hold them.
func TestVerifySumsP44(t *testing.T) {
	own := slowSum("la")
	for _, sum := range []int{0, 1, 1<<30 - 1, 1 << 30, 1<<31 - 2, 1<<31 - 1} {
		verifies(t, slowSum(slowPair(own, sum)), 2, 0, "a", []api.Step{{Sum: sum}}, true)
		verifies(t, slowSum(slowPair(sum, own)), 2, 1, "a", []api.Step{{Left: true, Sum: sum}}, true)
	}
	for _, sum := range []int{1 << 31, 1<<31 + 1, 1<<32 - 1} {
		verifies(t, slowSum(slowPair(own, sum)), 2, 0, "a", []api.Step{{Sum: sum}}, false)
		verifies(t, slowSum(slowPair(sum, own)), 2, 1, "a", []api.Step{{Left: true, Sum: sum}}, false)
	}
	zero, ones := slowSum(slowPair(own, 0)), slowSum(slowPair(own, 1<<32-1))
	for _, sum := range []int{1 << 32, -1 << 32, 1 << 40, math.MinInt} {
		verifies(t, zero, 2, 0, "a", []api.Step{{Sum: sum}}, false)
	}
	for _, sum := range []int{-1, math.MaxInt} {
		verifies(t, ones, 2, 0, "a", []api.Step{{Sum: sum}}, false)
	}
}

func verifyFails(t *testing.T, n, i int, text string, want api.Errno) {
	t.Helper()
	for _, proof := range [][]api.Step{nil, {{Sum: 1}}, {{Left: true, Sum: -1}}, make([]api.Step, 1000)} {
		if is, e := Verify(slowSum("l"+text), n, i, text, proof); is || e != want {
			t.Errorf("%d %d %d bytes: %v %d, want %d", n, i, len(text), is, e, want)
		}
	}
}

func TestVerifyErrorsP44(t *testing.T) {
	for _, text := range []string{"", "a", strings.Repeat("a", 64), strings.Repeat("a", 65)} {
		for _, n := range []int{0, -1, 33, 34, math.MinInt, math.MaxInt} {
			for _, i := range []int{0, -1, 1, 32, 33, math.MinInt, math.MaxInt - 1} {
				verifyFails(t, n, i, text, api.ErrArg)
			}
		}
		for n := 1; n <= 32; n++ {
			for _, i := range []int{-1, n, n + 1, 33, math.MinInt, math.MaxInt} {
				verifyFails(t, n, i, text, api.ErrArg)
			}
		}
	}
	for _, size := range []int{65, 66, 600, 601, 1 << 20} {
		for _, at := range [][2]int{{1, 0}, {2, 0}, {2, 1}, {32, 0}, {32, 31}} {
			verifyFails(t, at[0], at[1], strings.Repeat("a", size), api.ErrLarge)
		}
	}
	verifies(t, slowSum("l"+strings.Repeat("a", 64)), 1, 0, strings.Repeat("a", 64), nil, true)
}

func clashes(t *testing.T, a, b []string, x, y string) {
	t.Helper()
	p, q, e := Clash(a, b)
	if e != api.OK || p != x || q != y || p == q || slowSum(p) != slowSum(q) {
		t.Errorf("%q %q: %q %q %d, want %q %q", a, b, p, q, e, x, y)
	}
	p, q, e = Clash(b, a)
	if e != api.OK || p != y || q != x {
		t.Errorf("%q %q: %q %q %d, want %q %q", b, a, p, q, e, y, x)
	}
}

func TestClashOfLeavesP45(t *testing.T) {
	// The empty string's leaf has the hash of others.
	other := withSum(slowSum("l"), "")
	longer := withSum(slowSum("l"), strings.Repeat("z", 60))
	clashes(t, []string{""}, []string{other}, "l", "l"+other)
	clashes(t, []string{other}, []string{longer}, "l"+other, "l"+longer)
	for n := 1; n <= 32; n++ {
		a, b := make([]string, n), make([]string, n)
		for i := n - 1; i >= 0; i-- {
			b[i] = []string{other, longer}[i%2]
			// All from i on differ, and i is the first one.
			clashes(t, a, b, "l", "l"+b[i])
		}
	}
}

// sumsPair is the preimage of leaves i and i+1 of the first list that apart
// makes, otherPair that of the second one.
func sumsPair(i int) string { return slowPair(1000+i, 1001+i) }

func otherPair(i int, d ...int) string { return slowPair((1000+i)^d[i], (1001+i)^d[i+1]) }

func TestClashOfPairsP45(t *testing.T) {
	d, e := 5, up(5)
	a, b := apart(d, e)
	clashes(t, a, b, sumsPair(0), otherPair(0, d, e))
	// Of two pairs of one level the left one comes first.
	a, b = apart(d, e, d, e)
	clashes(t, a, b, sumsPair(0), otherPair(0, d, e))
	a, b = apart(0, 0, d, e)
	clashes(t, a, b, sumsPair(2), otherPair(2, 0, 0, d, e))
	// The pair of the last two is left over once, but computed at the level of
	// the others, and so comes after them.
	six := []int{0, 0, d, e, d, e}
	a, b = apart(six...)
	clashes(t, a, b, sumsPair(2), otherPair(2, six...))
	a, b = apart(0, 0, 0, 0, d, e)
	clashes(t, a, b, sumsPair(4), otherPair(4, 0, 0, 0, 0, d, e))
}

func TestClashOfUpperPairsP45(t *testing.T) {
	d, e := 5, up(5)
	// A pair of a higher level comes first, though it is further right.
	eight := []int{d, e, 0, 0, 0, d, 0, e}
	a, b := apart(eight...)
	clashes(t, a, b,
		slowPair(slowRoot(a[4:6]), slowRoot(a[6:])),
		slowPair(slowRoot(b[4:6]), slowRoot(b[6:])))
	// The root's own pair is the first of all.
	five := []int{d, e, 0, d, e}
	a, b = apart(five...)
	clashes(t, a, b,
		slowPair(slowRoot(a[:4]), slowRoot(a[4:])),
		slowPair(slowRoot(b[:4]), slowRoot(b[4:])))
	// A pair comes ahead of leaves, though it is further right.
	a, b = apart(0, 0, d, e)
	b[0] = withSum(1000, "prefix")
	clashes(t, a, b, sumsPair(2), otherPair(2, 0, 0, d, e))
}

// Lists of all lengths that differ in leaves and pairs here and there.
func TestClashOfAllLengthsP45(t *testing.T) {
	for n := 1; n <= 32; n++ {
		next := numbers(uint32(n))
		for range 40 {
			d := make([]int, n)
			for range next(4) {
				i := next(n)/2*2 + 1
				// A pair whose own hash stays, or one that changes the root.
				if i < n {
					d[i-1], d[i] = 7, up(7)
				} else {
					d[next(n)] ^= 3
				}
			}
			d[n-1] ^= change(d)
			a, b := apart(d...)
			i := next(n)
			b[i] = withSum((1000+i)^d[i], strings.Repeat("w", next(61)))
			if slices.Equal(a, b) {
				b[i] = withSum((1000+i)^d[i], "v")
			}
			x, y := slowClash(a, b)
			clashes(t, a, b, x, y)
		}
	}
}

func TestClashErrorsP45(t *testing.T) {
	for n := 1; n <= 32; n++ {
		l := some(n, uint32(n))
		clashFails(t, l, slices.Clone(l), api.ErrNone)
		for i := range l {
			other := slices.Clone(l)
			other[i] = "other"
			clashFails(t, l, other, api.ErrNone)
		}
		for _, m := range []int{1, n - 1, n + 1, 32} {
			if m != n && m > 0 && m <= 32 {
				clashFails(t, l, some(m, uint32(n)), api.ErrLen)
				clashFails(t, some(m, uint32(n)), l, api.ErrLen)
			}
		}
	}
	// The same root is no clash if the lengths differ.
	ab := []string{"a", "b"}
	one := withSums(slowRoot(ab))
	if slowRoot(one) != slowRoot(ab) {
		t.Fatal(one)
	}
	clashFails(t, ab, one, api.ErrLen)
	clashFails(t, one, ab, api.ErrLen)
}

// spare copies a list into a longer one, with a mark behind it.
func spare[T any](l []T, mark T) []T {
	return append(slices.Clone(l), mark, mark, mark)[:len(l)]
}

func keeps[T comparable](l, given []T, mark T) bool {
	return slices.Equal(l, given) && slices.Equal(l[len(l):len(l)+3], []T{mark, mark, mark})
}

func TestArgumentsStayAndResultsAreNewP2(t *testing.T) {
	for n := 1; n <= 32; n++ {
		x, y := make([]string, n), make([]string, n)
		y[n-1] = withSum(slowSum("l"), "")
		a, b := spare(x, "mark"), spare(y, "mark")
		Root(a)
		p, q, _ := Clash(a, b)
		proof, _ := Proof(a, n-1)
		given := slices.Clone(proof)
		steps := spare(proof, api.Step{Sum: 9})
		Verify(slowRoot(a), n, n-1, a[n-1], steps)
		if !keeps(a, x, "mark") || !keeps(b, y, "mark") || !keeps(steps, given, api.Step{Sum: 9}) {
			t.Error(n, a, b, steps)
		}
		again, _ := Proof(a, n-1)
		for i := range again[:cap(again)] {
			again[:cap(again)][i] = api.Step{}
		}
		if !slices.Equal(proof, given) || unsafe.StringData(p) == unsafe.StringData(q) {
			t.Error(n, proof, p, q)
		}
	}
	// The preimage of the empty string is no constant that others have too.
	p, _, _ := Clash([]string{""}, withSums(slowSum("l")))
	r, _, _ := Clash([]string{""}, withSums(slowSum("l")))
	if p != "l" || unsafe.StringData(p) == unsafe.StringData(r) || unsafe.StringData(p) == unsafe.StringData("l") {
		t.Error(p, r)
	}
}
