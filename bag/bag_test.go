package bag

import (
	"math"
	"slices"
	"strings"
	"testing"
	"unsafe"

	"woolsack/api"
)

const million = 1000000

// slowSum divides bit by bit, by the modulus Small.
func slowSum(s string) int {
	p := 1
	for i := range len(s) {
		for bit := 7; bit >= 0; bit-- {
			p = p<<1 | int(s[i]>>bit)&1
			if p >= 1<<16 {
				p ^= 65581
			}
		}
	}
	return p
}

// alike makes the i-th, from 0 to 127, of the texts with the fingerprint of
// first, a text of three bytes: they differ by multiples of the modulus.
func alike(first string, i int) string {
	p := int(first[0])<<16 | int(first[1])<<8 | int(first[2])
	for bit := range 7 {
		if i>>bit&1 == 1 {
			p ^= 65581 << bit
		}
	}
	return string([]byte{byte(p >> 16), byte(p >> 8), byte(p)})
}

func item(text string, n, refs int) api.Item {
	return api.Item{Sum: slowSum(text), N: n, Text: text, Refs: refs}
}

func idOf(text string, n int) api.Id {
	return api.Id{Is: true, Sum: slowSum(text), N: n}
}

// crowd lists items with the same fingerprint, the N of which are told.
func crowd(ns ...int) []api.Item {
	var l []api.Item
	for i, n := range ns {
		l = append(l, item(alike("abc", i), n, 1))
	}
	return l
}

func upTo(n int) []int {
	var l []int
	for i := range n {
		l = append(l, i)
	}
	return l
}

// letters lists n items in order, of one byte each, so all of the Sum differ.
func letters(n int) []api.Item {
	var l []api.Item
	for i := range n {
		l = append(l, item(string([]byte{byte(2 * i)}), 0, 1+i))
	}
	return l
}

// bags lists such as are valid.
func bags() [][]api.Item {
	abc := "abc"
	some := []api.Item{item("", 0, 1), item("x", 0, million), item("y", 5, 2), item("ab", 63, 7)}
	mix := append(letters(3), crowd(0, 1, 7, 62, 63)...)
	long := []api.Item{item(strings.Repeat("x", 64), 0, 3)}
	return [][]api.Item{
		nil, {}, {item("", 0, 1)}, {item("", 63, million)}, {item(abc, 9, 1)},
		some, mix, long, letters(63), letters(64), crowd(upTo(63)...), crowd(upTo(64)...), crowd(3, 5, 8),
	}
}

func TestTextsAreAlike(t *testing.T) {
	seen := map[string]int{}
	for i := range 128 {
		s := alike("abc", i)
		seen[s]++
		if slowSum(s) != slowSum("abc") || seen[s] != 1 {
			t.Fatal(i, s)
		}
	}
}

func TestSumExamplesP29(t *testing.T) {
	for text, sum := range map[string]int{"": 1, "\x00": 256, "x": 376, "\xff": 511, "\x00\x00": 0x2d, "ab": 0x6162 ^ 0x2d} {
		if e := Check([]api.Item{{Sum: sum, Text: text, Refs: 1}}); e != api.OK {
			t.Errorf("%q %d: %d", text, sum, e)
		}
	}
}

func TestCheckP29(t *testing.T) {
	for _, l := range bags() {
		if e := Check(l); e != api.OK {
			t.Error(l, e)
		}
	}
}

func isCheckError(t *testing.T, l []api.Item, want api.Errno) {
	t.Helper()
	if e := Check(l); e != want {
		t.Error(l, e, want)
	}
}

func TestCheckTooManyItemsP29(t *testing.T) {
	for _, n := range []int{65, 66, 100} {
		isCheckError(t, letters(n), api.ErrLarge)
		// Ahead of whatever is wrong with an item.
		l := letters(n)
		l[0].Sum++
		isCheckError(t, l, api.ErrLarge)
		isCheckError(t, make([]api.Item, n), api.ErrLarge)
	}
	isCheckError(t, make([]api.Item, 1<<20), api.ErrLarge)
	isCheckError(t, make([]api.Item, 64), api.ErrSum)
}

// spoil lists ways to make an item wrong, in the order of their errors.
func spoil() []struct {
	do   func(x *api.Item)
	want api.Errno
} {
	return []struct {
		do   func(x *api.Item)
		want api.Errno
	}{
		{func(x *api.Item) { x.Text = strings.Repeat("z", 65); x.Sum = slowSum(x.Text) }, api.ErrLarge},
		{func(x *api.Item) { x.Text = strings.Repeat("z", 601) }, api.ErrLarge},
		{func(x *api.Item) { x.Sum++ }, api.ErrSum},
		{func(x *api.Item) { x.Sum ^= 65581 }, api.ErrSum},
		{func(x *api.Item) { x.Sum = 0 }, api.ErrSum},
		{func(x *api.Item) { x.Sum = -x.Sum }, api.ErrSum},
		{func(x *api.Item) { x.Sum = math.MinInt }, api.ErrSum},
		{func(x *api.Item) { x.Sum = math.MaxInt }, api.ErrSum},
		{func(x *api.Item) { x.N = -1 }, api.ErrArg},
		{func(x *api.Item) { x.N = 64 }, api.ErrArg},
		{func(x *api.Item) { x.N = math.MinInt }, api.ErrArg},
		{func(x *api.Item) { x.N = math.MaxInt }, api.ErrArg},
		{func(x *api.Item) { x.Refs = 0 }, api.ErrArg},
		{func(x *api.Item) { x.Refs = -1 }, api.ErrArg},
		{func(x *api.Item) { x.Refs = million + 1 }, api.ErrArg},
		{func(x *api.Item) { x.Refs = math.MinInt }, api.ErrArg},
		{func(x *api.Item) { x.Refs = math.MaxInt }, api.ErrArg},
	}
}

func TestCheckItemsP29(t *testing.T) {
	for _, s := range spoil() {
		for _, l := range [][]api.Item{{item("m", 3, 3)}, letters(64), crowd(1, 2, 4), crowd(upTo(64)...)} {
			for i := range l {
				wrong := slices.Clone(l)
				s.do(&wrong[i])
				isCheckError(t, wrong, s.want)
			}
		}
	}
}

func TestCheckErrFormP29(t *testing.T) {
	x, y := item("x", 0, 1), item("y", 0, 1)
	a, b := item(alike("abc", 1), 4, 1), item(alike("abc", 2), 5, 1)
	same := b
	same.N = 4
	lessSum, moreN := item("x", 63, 1), item("y", 1, 1)
	for _, l := range [][]api.Item{
		{y, x}, {b, a}, {a, same}, {moreN, lessSum}, {y, lessSum}, {x, a, y}, {x, y, b, a},
		// Ahead of a text that was there.
		{x, x}, {x, y, x}, {lessSum, x}, {a, b, a},
	} {
		isCheckError(t, l, api.ErrForm)
	}
	// The Sum counts first.
	isCheckError(t, []api.Item{lessSum, y}, api.OK)
	isCheckError(t, []api.Item{x, y, a, b}, api.OK)
}

func TestCheckErrThereP29(t *testing.T) {
	isCheckError(t, []api.Item{item("", 0, 1), item("", 1, 1)}, api.ErrThere)
	isCheckError(t, []api.Item{item("x", 7, 1), item("x", 63, 9), item("y", 0, 1)}, api.ErrThere)
	// Any item before it may be the one, not just the preceding one.
	for _, n := range []int{1, 2, 5, 63} {
		l := crowd(upTo(n)...)
		for i := range l {
			isCheckError(t, append(slices.Clone(l), item(l[i].Text, 63, 2)), api.ErrThere)
		}
		isCheckError(t, append(l, item(alike("abc", 100), 63, 2)), api.OK)
	}
}

// Of one item, the error that is listed first is told.
func TestCheckFirstErrorOfAnItemP29(t *testing.T) {
	before := []api.Item{item("y", 9, 1)}
	all := spoil()
	for _, x := range []api.Item{item("x", 0, 1), item("y", 9, 1), item("y", 10, 1)} {
		for i, first := range all {
			for _, second := range all[i+1:] {
				wrong := x
				// Two of the same error may undo each other.
				if second.want != first.want {
					second.do(&wrong)
				}
				first.do(&wrong)
				isCheckError(t, append(slices.Clone(before), wrong), first.want)
			}
		}
	}
}

func TestCheckFirstWrongItemDecidesP29(t *testing.T) {
	for _, first := range spoil() {
		for _, second := range spoil() {
			l := letters(6)
			first.do(&l[2])
			second.do(&l[4])
			isCheckError(t, l, first.want)
		}
		l := letters(6)
		first.do(&l[4])
		l[1] = l[0]
		isCheckError(t, l, api.ErrForm)
		l[1].N = 1
		isCheckError(t, l, api.ErrThere)
		l = letters(6)
		first.do(&l[0])
		l[2] = l[1]
		isCheckError(t, l, first.want)
	}
}

func TestPutTwiceP30(t *testing.T) {
	l, a, e := Put(nil, "x")
	if !slices.Equal(l, []api.Item{{Sum: 376, Text: "x", Refs: 1}}) || a != (api.Id{Is: true, Sum: 376}) || e != api.OK {
		t.Fatal(l, a, e)
	}
	l, b, e := Put(l, "x")
	if !slices.Equal(l, []api.Item{{Sum: 376, Text: "x", Refs: 2}}) || b != a || e != api.OK {
		t.Fatal(l, b, e)
	}
}

// puts expects Put to answer want, and the identifier with n.
func puts(t *testing.T, l []api.Item, text string, want []api.Item, n int) {
	t.Helper()
	got, id, e := Put(l, text)
	if !slices.Equal(got, want) || id != idOf(text, n) || e != api.OK {
		t.Errorf("%v %q: %v %v %d", l, text, got, id, e)
	}
}

func TestPutWhatIsThereP30(t *testing.T) {
	for _, l := range bags() {
		for i, x := range l {
			if x.Refs < million {
				want := slices.Clone(l)
				want[i].Refs++
				puts(t, l, x.Text, want, x.N)
			}
		}
	}
	x := item("x", 7, million-1)
	puts(t, []api.Item{x}, "x", []api.Item{item("x", 7, million)}, 7)
}

func TestPutWhatIsNewP30(t *testing.T) {
	x, y, z := item("x", 0, 4), item("y", 0, 5), item("z", 0, 6)
	empty := item("", 0, 1)
	for _, c := range []struct {
		l    []api.Item
		text string
		want []api.Item
	}{
		{nil, "", []api.Item{empty}},
		{[]api.Item{x}, "", []api.Item{empty, x}},
		{[]api.Item{x, z}, "y", []api.Item{x, item("y", 0, 1), z}},
		{[]api.Item{x, y}, "z", []api.Item{x, y, item("z", 0, 1)}},
		{[]api.Item{y, z}, "x", []api.Item{item("x", 0, 1), y, z}},
		// The order is that of Sum, not of Text.
		{[]api.Item{item("b", 0, 1)}, "aa", []api.Item{item("b", 0, 1), item("aa", 0, 1)}},
		{[]api.Item{x}, strings.Repeat("x", 64), []api.Item{x, item(strings.Repeat("x", 64), 0, 1)}},
		{[]api.Item{x}, "\x00", []api.Item{item("\x00", 0, 1), x}},
	} {
		puts(t, c.l, c.text, c.want, 0)
	}
	// A 63 of one fingerprint stands ahead of a 0 of the next.
	puts(t, []api.Item{item("x", 63, 1)}, "y", []api.Item{item("x", 63, 1), item("y", 0, 1)}, 0)
	puts(t, []api.Item{item("y", 63, 1)}, "x", []api.Item{item("x", 0, 1), item("y", 63, 1)}, 0)
}

func TestPutTakesTheSmallestNumberP30(t *testing.T) {
	text := alike("abc", 100)
	for _, c := range []struct {
		ns []int
		n  int
	}{
		{nil, 0}, {[]int{0}, 1}, {[]int{1}, 0}, {[]int{63}, 0}, {[]int{0, 1}, 2}, {[]int{0, 2}, 1}, {[]int{1, 2}, 0},
		{[]int{0, 1, 2, 5, 6}, 3}, {[]int{0, 63}, 1}, {[]int{2, 4, 6}, 0}, {upTo(62), 62}, {upTo(63), 63}, {upTo(64)[1:], 0},
		{append(upTo(20), upTo(64)[21:]...), 20}, {append(upTo(62), 63), 62},
	} {
		l := crowd(c.ns...)
		x := item(text, c.n, 1)
		want := slices.Clone(l)
		at := 0
		for at < len(l) && l[at].N < c.n {
			at++
		}
		puts(t, l, text, slices.Insert(want, at, x), c.n)
	}
	// Numbers of other fingerprints don't count.
	others := append(letters(3), crowd(0, 1)...)
	puts(t, others, "z", append(append(letters(3), item("z", 0, 1)), crowd(0, 1)...), 0)
}

func isPutError(t *testing.T, l []api.Item, text string, want api.Errno) {
	t.Helper()
	if got, id, e := Put(l, text); len(got) != 0 || id != (api.Id{}) || e != want {
		t.Errorf("%v %q: %v %v %d", l, text, got, id, e)
	}
}

func TestPutErrorsP30(t *testing.T) {
	long := strings.Repeat("x", 65)
	for _, l := range bags() {
		for _, text := range []string{long, long[1:] + "yz", strings.Repeat("x", 601), strings.Repeat("x", 1<<20)} {
			isPutError(t, l, text, api.ErrLarge)
		}
	}
	for _, l := range [][]api.Item{letters(64), crowd(upTo(64)...)} {
		for _, text := range []string{"", "y12", "abcd", alike("abc", 127), long[1:]} {
			isPutError(t, l, text, api.ErrFull)
		}
	}
	full := []api.Item{item("x", 0, million), item("y", 0, million-1)}
	isPutError(t, full, "x", api.ErrFull)
	many := letters(64)
	many[8].Refs = million
	isPutError(t, many, many[8].Text, api.ErrFull)
	isPutError(t, many, "new", api.ErrFull)
	// A bag that is full of items takes one more reference.
	want := letters(64)
	want[63].Refs++
	puts(t, letters(64), want[63].Text, want, 0)
	// One place is left.
	if l, _, e := Put(letters(63), "new"); len(l) != 64 || e != api.OK {
		t.Error(len(l), e)
	}
}

func TestPutCheckGoesAheadP30(t *testing.T) {
	for _, s := range spoil() {
		for _, l := range [][]api.Item{{item("m", 3, 3)}, letters(64)} {
			s.do(&l[len(l)-1])
			for _, text := range []string{"", "m", "\x00", "new", strings.Repeat("x", 65)} {
				isPutError(t, l, text, s.want)
			}
		}
	}
	x := item("x", 0, 1)
	again := item("x", 1, 1)
	isPutError(t, []api.Item{x, x}, "x", api.ErrForm)
	isPutError(t, []api.Item{x, again}, "x", api.ErrThere)
	isPutError(t, letters(65), "x", api.ErrLarge)
}

func TestGetP31(t *testing.T) {
	for _, l := range bags() {
		for _, x := range l {
			if s, e := Get(l, idOf(x.Text, x.N)); s != x.Text || e != api.OK {
				t.Errorf("%v %v: %q %d", l, x, s, e)
			}
		}
	}
}

func TestDropP31(t *testing.T) {
	for _, l := range bags() {
		for i, x := range l {
			want := slices.Clone(l)
			want[i].Refs--
			if x.Refs == 1 {
				want = append(slices.Clone(l[:i]), l[i+1:]...)
			}
			if got, e := Drop(l, idOf(x.Text, x.N)); !slices.Equal(got, want) || e != api.OK {
				t.Errorf("%v %v: %v %d", l, x, got, e)
			}
		}
	}
}

func isIdError(t *testing.T, l []api.Item, id api.Id, want api.Errno) {
	t.Helper()
	if s, e := Get(l, id); s != "" || e != want {
		t.Errorf("Get %v %v: %q %d", l, id, s, e)
	}
	if got, e := Drop(l, id); len(got) != 0 || e != want {
		t.Errorf("Drop %v %v: %v %d", l, id, got, e)
	}
}

func TestNoSuchIdentifierP31(t *testing.T) {
	for _, l := range bags() {
		for _, id := range []api.Id{
			{}, {Is: true}, {Is: true, Sum: 2}, {Is: true, Sum: 376, N: 63}, {Is: true, Sum: 376, N: -1},
			{Is: true, Sum: math.MinInt, N: math.MinInt}, {Is: true, Sum: math.MaxInt, N: math.MaxInt}, {Is: true, Sum: 65581},
		} {
			isIdError(t, l, id, api.ErrNone)
		}
		for _, x := range l {
			isIdError(t, l, api.Id{Sum: x.Sum, N: x.N}, api.ErrNone)
			isIdError(t, l, api.Id{Is: true, Sum: x.Sum, N: x.N + 64}, api.ErrNone)
			isIdError(t, l, api.Id{Is: true, Sum: x.Sum ^ 65581, N: x.N}, api.ErrNone)
		}
	}
	isIdError(t, crowd(0, 2), idOf("abc", 1), api.ErrNone)
}

func TestIdentifiersCheckGoesAheadP31(t *testing.T) {
	for _, s := range spoil() {
		for _, l := range [][]api.Item{{item("m", 3, 3)}, letters(64)} {
			first := idOf(l[0].Text, l[0].N)
			s.do(&l[len(l)-1])
			for _, id := range []api.Id{first, {}, {Is: true, Sum: 2}} {
				isIdError(t, l, id, s.want)
			}
		}
	}
	x := item("x", 0, 1)
	again := item("x", 1, 1)
	for _, id := range []api.Id{{}, idOf("x", 0), idOf("x", 1)} {
		isIdError(t, []api.Item{x, x}, id, api.ErrForm)
		isIdError(t, []api.Item{x, again}, id, api.ErrThere)
		isIdError(t, letters(65), id, api.ErrLarge)
	}
}

// entry of a model: what a bag knows of a text.
type entry struct{ n, refs int }

// list answers the bag that a model stands for.
func list(model map[string]entry) []api.Item {
	var l []api.Item
	for text, x := range model {
		l = append(l, item(text, x.n, x.refs))
	}
	slices.SortFunc(l, func(a, b api.Item) int { return (a.Sum-b.Sum)*100 + a.N - b.N })
	return l
}

// free answers the smallest number that no text like this one has.
func free(model map[string]entry, text string) int {
	for n := 0; ; n++ {
		taken := false
		for other, x := range model {
			taken = taken || slowSum(other) == slowSum(text) && x.n == n
		}
		if !taken {
			return n
		}
	}
}

// Blocks come and go, and the references are those that were put and not
// dropped.
func TestBagThatGrowsAndShrinksP30P31(t *testing.T) {
	var l []api.Item
	model := map[string]entry{}
	x := uint32(1)
	for range 4000 {
		x = x*1664525 + 1013904223
		text := alike([]string{"abc", "bcd", "cde", "\x00\x00\x00"}[x>>30], int(x>>16)%20)
		known, there := model[text]
		if x>>29&1 == 0 && !there {
			isIdError(t, l, idOf(text, 63), api.ErrNone)
			continue
		}
		var id api.Id
		var e api.Errno
		switch {
		case x>>29&1 == 0:
			id = idOf(text, known.n)
			l, e = Drop(l, id)
			known.refs--
		case !there && len(l) == 64:
			isPutError(t, l, text, api.ErrFull)
			continue
		case !there:
			l, id, e = Put(l, text)
			known = entry{free(model, text), 1}
		default:
			l, id, e = Put(l, text)
			known.refs++
		}
		model[text] = known
		if known.refs == 0 {
			delete(model, text)
		}
		if e != api.OK || id != idOf(text, known.n) || !slices.Equal(l, list(model)) || Check(l) != api.OK {
			t.Fatalf("%q: %v %v %d", text, l, id, e)
		}
	}
}

// withSpare answers l with something behind its end.
func withSpare(l []api.Item) []api.Item {
	all := append(slices.Clone(l), item("spare", 1, 2), item("spare", 3, 4))
	return all[:len(l)]
}

func whole(l []api.Item) []api.Item { return l[:cap(l)] }

func overwrite(l []api.Item) {
	for i := range whole(l) {
		whole(l)[i] = api.Item{Sum: -1, N: -1, Text: "none", Refs: -1}
	}
}

func TestArgumentsStayP2(t *testing.T) {
	for _, given := range bags() {
		l := withSpare(given)
		before := slices.Clone(whole(l))
		left := func(what string) {
			t.Helper()
			if !slices.Equal(whole(l), before) {
				t.Error(what, l)
			}
		}
		Check(l)
		left("Check")
		for _, text := range []string{"", "\x00", "x", "abc", "new", "zzzz"} {
			got, _, _ := Put(l, text)
			left("Put")
			overwrite(got)
			left("what Put answered")
		}
		for _, x := range given {
			Get(l, idOf(x.Text, x.N))
			left("Get")
			got, _ := Drop(l, idOf(x.Text, x.N))
			left("Drop")
			overwrite(got)
			left("what Drop answered")
		}
	}
}

func overlap(a, b string) bool {
	from, at := uintptr(unsafe.Pointer(unsafe.StringData(a))), uintptr(unsafe.Pointer(unsafe.StringData(b)))
	return at < from+uintptr(len(a)) && from < at+uintptr(len(b))
}

// sharing tells whether a text of l, the spare ones too, shares memory with
// one of the others or with a text that is given.
func sharing(l []api.Item, given ...string) bool {
	for i, x := range whole(l) {
		for _, y := range given {
			if overlap(x.Text, y) {
				return true
			}
		}
		for _, y := range whole(l)[:i] {
			if overlap(x.Text, y.Text) {
				return true
			}
		}
	}
	return false
}

func TestTextsAreNewMemoryP2(t *testing.T) {
	all := strings.Repeat("abcdefghij", 5)
	l := []api.Item{item(all[2:13], 0, 2), item(all[:11], 0, 1), item(all[5:16], 0, 3)}
	slices.SortFunc(l, func(a, b api.Item) int { return a.Sum - b.Sum })
	for _, text := range []string{all[:20], all[1:12], all[10:21]} {
		got, _, e := Put(l, text)
		if e != api.OK || sharing(got, all) {
			t.Error("Put", text, e)
		}
	}
	for _, x := range l {
		got, e := Drop(l, idOf(x.Text, x.N))
		if e != api.OK || sharing(got, all) {
			t.Error("Drop", x, e)
		}
		if s, e := Get(l, idOf(x.Text, x.N)); e != api.OK || overlap(s, all) {
			t.Error("Get", x, e)
		}
	}
}
