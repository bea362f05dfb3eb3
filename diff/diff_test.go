package diff

import (
	"math"
	"reflect"
	"slices"
	"strings"
	"testing"
	"unsafe"

	"woolsack/api"
	"woolsack/vol"
)

// hole stands for one in the lists of blocks that the tests write.
const hole = "(hole)"

// entry is a volume by its texts.
type entry struct {
	name   string
	blocks []string
}

// of makes the state with these volumes, block by block.
func of(t *testing.T, vols ...entry) api.State {
	t.Helper()
	var st api.State
	for _, v := range vols {
		made, e := vol.Make(st, v.name, len(v.blocks))
		for at, text := range v.blocks {
			if text != hole && e == api.OK {
				made, e = vol.Write(made, v.name, at, text)
			}
		}
		if e != api.OK {
			t.Fatal(v, e)
		}
		st = made
	}
	return st
}

// alike makes the i-th, from 0 to 127, of the texts with the fingerprint of
// abc by the modulus Small.
func alike(i int) string {
	p := 0x616263
	for bit := range 7 {
		if i>>bit&1 == 1 {
			p ^= 65581 << bit
		}
	}
	return string([]byte{byte(p >> 16), byte(p >> 8), byte(p)})
}

// sample has volumes of equal and of different lengths, one with no blocks.
func sample(t *testing.T) api.State {
	st := of(t,
		entry{"a", []string{"x", hole, "", "y", hole}},
		entry{"b", []string{"y", "x", hole, "y", hole}},
		entry{"c", []string{hole, "z"}},
		entry{"d", []string{"z", hole}},
		entry{"e", []string{"x"}},
	)
	st.Vols = append(st.Vols, api.Vol{Name: "f"})
	return st
}

// like compares states field by field; empty and nil lists are alike.
func like(a, b api.State) bool {
	return slices.Equal(a.Bag, b.Bag) && slices.EqualFunc(a.Vols, b.Vols, func(x, y api.Vol) bool {
		return x.Name == y.Name && slices.Equal(x.Blocks, y.Blocks)
	})
}

func differs(t *testing.T, st api.State, a, b string, want ...int) {
	t.Helper()
	if at, e := Diff(st, a, b); e != api.OK || !slices.Equal(at, want) {
		t.Errorf("%s %s: %v %d, want %v", a, b, at, e, want)
	}
}

func diffFails(t *testing.T, st api.State, a, b string, want api.Errno) {
	t.Helper()
	if at, e := Diff(st, a, b); e != want || len(at) != 0 {
		t.Errorf("%q %q: %v %d, want %d", a, b, at, e, want)
	}
}

// copies expects Copy to answer want, a valid state.
func copies(t *testing.T, st api.State, from, to string, at []int, want api.State) {
	t.Helper()
	got, e := Copy(st, from, to, at)
	if e != api.OK || !like(got, want) || vol.Check(got) != api.OK {
		t.Errorf("%s %s %v: %d %v, want %v", from, to, at, e, got, want)
	}
}

func copyFails(t *testing.T, st api.State, from, to string, at []int, want api.Errno) {
	t.Helper()
	if got, e := Copy(st, from, to, at); e != want || len(got.Bag) != 0 || len(got.Vols) != 0 {
		t.Errorf("%q %q %v: %d %v, want %d", from, to, at, e, got, want)
	}
}

func TestDiffP39(t *testing.T) {
	st := sample(t)
	// An empty block is no hole.
	differs(t, st, "a", "b", 0, 1, 2)
	differs(t, st, "b", "a", 0, 1, 2)
	differs(t, st, "c", "d", 0, 1)
	for _, v := range st.Vols {
		differs(t, st, v.Name, v.Name)
	}
}

// A clone differs from its original where it was written.
func TestDiffOfACloneP39(t *testing.T) {
	st, e := vol.Clone(of(t, entry{"v", slices.Repeat([]string{"x", hole}, 16)}), "v", "w")
	differs(t, st, "v", "w")
	var want []int
	for _, at := range []int{0, 1, 13, 14, 31} {
		st, e = vol.Write(st, "w", at, "y")
		want = append(want, at)
		if e != api.OK {
			t.Fatal(e)
		}
		differs(t, st, "v", "w", want...)
		differs(t, st, "w", "v", want...)
	}
	st, _ = vol.Write(st, "w", 0, "x")
	st, _ = vol.Trim(st, "w", 30)
	differs(t, st, "v", "w", 1, 13, 14, 30, 31)
}

// Blocks with the same fingerprint differ by their numbers.
func TestDiffOfNumbersP39(t *testing.T) {
	st := of(t, entry{"v", []string{alike(0), alike(1), alike(2)}}, entry{"w", []string{alike(1), alike(1), alike(3)}})
	differs(t, st, "v", "w", 0, 2)
}

// strangers are names that sample has not.
func strangers() []string {
	return []string{"", "none", "A", "aa", "a ", "\xff", strings.Repeat("a", 1<<20)}
}

func TestDiffErrorsP39(t *testing.T) {
	st := sample(t)
	for _, name := range strangers() {
		diffFails(t, st, name, "a", api.ErrNone)
		diffFails(t, st, "a", name, api.ErrNone)
		diffFails(t, st, name, name, api.ErrNone)
		diffFails(t, api.State{}, name, name, api.ErrNone)
	}
	for _, pair := range [][2]string{{"a", "c"}, {"d", "a"}, {"c", "e"}, {"e", "f"}, {"f", "a"}} {
		diffFails(t, st, pair[0], pair[1], api.ErrLen)
		diffFails(t, st, pair[1], pair[0], api.ErrLen)
	}
}

// spoil lists states that are not valid, by their errors.
func spoil(t *testing.T) map[api.Errno]api.State {
	l := map[api.Errno]api.State{}
	for e, do := range map[api.Errno]func(st *api.State){
		api.ErrSum:   func(st *api.State) { st.Bag[0].Sum++ },
		api.ErrArg:   func(st *api.State) { st.Bag[0].Refs = 0 },
		api.ErrLarge: func(st *api.State) { st.Vols = append(st.Vols, api.Vol{Name: "g"}) },
		api.ErrForm:  func(st *api.State) { st.Vols[5].Name = "-" },
		api.ErrNone:  func(st *api.State) { st.Vols[0].Blocks[1] = api.Id{Is: true} },
		api.ErrLen:   func(st *api.State) { st.Bag[0].Refs++ },
	} {
		st := sample(t)
		do(&st)
		l[e] = st
	}
	return l
}

func TestStatesAreCheckedP39P40(t *testing.T) {
	for want, st := range spoil(t) {
		for _, names := range [][2]string{{"a", "b"}, {"a", "c"}, {"none", "a"}, {"a", "none"}, {"", ""}} {
			diffFails(t, st, names[0], names[1], want)
			for _, at := range [][]int{nil, {0}, {-1}, {99}} {
				copyFails(t, st, names[0], names[1], at, want)
			}
		}
	}
}

func TestCopyP40(t *testing.T) {
	a, b := []string{"x", hole, "", "y", hole}, []string{"y", "x", hole, "y", hole}
	st := of(t, entry{"a", a}, entry{"b", b})
	for _, c := range []struct {
		at   []int
		want []string
	}{
		{nil, b}, {[]int{}, b}, {[]int{3}, b}, {[]int{4}, b}, {[]int{4, 3, 4, 3}, b},
		{[]int{0}, []string{"x", "x", hole, "y", hole}},
		{[]int{1}, []string{"y", hole, hole, "y", hole}},
		{[]int{2}, []string{"y", "x", "", "y", hole}},
		{[]int{2, 0}, []string{"x", "x", "", "y", hole}},
		{[]int{1, 0, 1}, []string{"x", hole, hole, "y", hole}},
		{[]int{0, 1, 2}, a}, {[]int{2, 1, 0}, a}, {[]int{4, 3, 2, 1, 0, 0, 1, 2, 3, 4}, a},
	} {
		copies(t, st, "a", "b", c.at, of(t, entry{"a", a}, entry{"b", c.want}))
	}
}

// What differs is copied, and then nothing differs.
func TestCopyOfTheDifferenceP39P40(t *testing.T) {
	for _, names := range [][2]string{{"a", "b"}, {"b", "a"}, {"c", "d"}, {"d", "c"}} {
		st := sample(t)
		at, _ := Diff(st, names[0], names[1])
		got, e := Copy(st, names[0], names[1], at)
		if e != api.OK || len(at) == 0 {
			t.Error(names, at, e)
		}
		differs(t, got, names[0], names[1])
		again, e := Copy(got, names[0], names[1], at)
		if e != api.OK || !like(again, got) {
			t.Error(names, again, e)
		}
	}
}

func TestCopyBetweenLengthsP40(t *testing.T) {
	long, short := []string{"x", "y", hole, "z"}, []string{hole, "z"}
	st := of(t, entry{"l", long}, entry{"s", short})
	copies(t, st, "l", "s", []int{0, 1}, of(t, entry{"l", long}, entry{"s", []string{"x", "y"}}))
	copies(t, st, "s", "l", []int{1, 0}, of(t, entry{"l", []string{hole, "z", hole, "z"}}, entry{"s", short}))
	for _, at := range []int{2, 3} {
		copyFails(t, st, "l", "s", []int{at}, api.ErrArg)
		copyFails(t, st, "l", "s", []int{0, 1, at}, api.ErrArg)
		copyFails(t, st, "s", "l", []int{at}, api.ErrArg)
	}
}

// A block that goes leaves its number, which a text written anew takes: so
// it is when a volume is copied onto itself.
func TestCopyOntoItselfP40(t *testing.T) {
	st := of(t, entry{"v", []string{alike(0), alike(1), alike(2), hole, ""}})
	copies(t, st, "v", "v", []int{0, 1, 2, 3, 4, 2, 0}, st)
	st, e := vol.Trim(st, "v", 0)
	if e != api.OK {
		t.Fatal(e)
	}
	want := of(t, entry{"v", []string{hole, alike(1), alike(2), hole, ""}})
	copies(t, st, "v", "v", nil, st)
	copies(t, st, "v", "v", []int{1, 2}, want)
	copies(t, st, "v", "v", []int{1, 1, 2, 2, 1, 4, 3, 0}, want)
	turned := of(t, entry{"v", []string{alike(2), alike(1), alike(2), hole, ""}})
	turned, _ = vol.Trim(turned, "v", 0)
	copies(t, st, "v", "v", []int{2}, turned)
	copies(t, st, "v", "v", []int{2, 1, 2}, turned)
}

// A full bag is no hindrance: what is copied is there.
func TestCopyWithAFullBagP40(t *testing.T) {
	var a, b []string
	for i := range 32 {
		a, b = append(a, string([]byte{byte(i)})), append(b, string([]byte{byte(i), 'b'}))
	}
	st := of(t, entry{"a", a}, entry{"b", b}, entry{"c", b})
	at, _ := Diff(st, "a", "b")
	copies(t, st, "a", "b", at, of(t, entry{"a", a}, entry{"b", a}, entry{"c", b}))
	copies(t, st, "b", "a", at, of(t, entry{"a", b}, entry{"b", b}, entry{"c", b}))
	copies(t, st, "a", "a", at, st)
}

func TestCopyErrorsP40(t *testing.T) {
	st := sample(t)
	for _, name := range strangers() {
		for _, at := range [][]int{nil, {0}, {-1}, {99}} {
			copyFails(t, st, name, "a", at, api.ErrNone)
			copyFails(t, st, "a", name, at, api.ErrNone)
			copyFails(t, st, name, name, at, api.ErrNone)
			copyFails(t, api.State{}, name, name, at, api.ErrNone)
		}
	}
	for _, at := range []int{-1, 5, 6, 32, math.MinInt, math.MaxInt} {
		for _, l := range [][]int{{at}, {0, at}, {at, 0}, {0, 1, 2, 3, 4, at}} {
			copyFails(t, st, "a", "b", l, api.ErrArg)
			copyFails(t, st, "a", "a", l, api.ErrArg)
			copyFails(t, st, "a", "c", l, api.ErrArg)
			copyFails(t, st, "f", "a", l, api.ErrArg)
			copyFails(t, st, "a", "f", l, api.ErrArg)
		}
	}
	copies(t, st, "f", "a", nil, st)
	copies(t, st, "a", "f", nil, st)
}

// keep copies a state with all that stands in its spare places.
func keep(st api.State) api.State {
	vols := slices.Clone(st.Vols[:cap(st.Vols)])
	for i, v := range vols {
		vols[i].Blocks = slices.Clone(v.Blocks[:cap(v.Blocks)])
	}
	return api.State{Bag: slices.Clone(st.Bag[:cap(st.Bag)]), Vols: vols}
}

// overwrite spoils all of a state's memory, but for its texts.
func overwrite(st api.State) {
	for _, v := range st.Vols[:cap(st.Vols)] {
		for i := range v.Blocks[:cap(v.Blocks)] {
			v.Blocks[:cap(v.Blocks)][i] = api.Id{Sum: -1, N: -1}
		}
	}
	for i := range st.Vols[:cap(st.Vols)] {
		st.Vols[:cap(st.Vols)][i] = api.Vol{Name: "none"}
	}
	for i := range st.Bag[:cap(st.Bag)] {
		st.Bag[:cap(st.Bag)][i] = api.Item{N: -1}
	}
}

// strings of a state, by where they are.
func places(st api.State) []*byte {
	var l []*byte
	for _, x := range st.Bag {
		if x.Text != "" {
			l = append(l, unsafe.StringData(x.Text))
		}
	}
	for _, v := range st.Vols {
		l = append(l, unsafe.StringData(v.Name))
	}
	return l
}

func TestArgumentsStayAndResultsAreNewP2(t *testing.T) {
	for _, given := range [][]int{nil, {}, {0}, {1}, {2, 0, 1, 4}, {0, 9}} {
		st := sample(t)
		at := append(slices.Clone(given), 7, 8)[:len(given)]
		before := keep(st)
		stays := func(what string) {
			t.Helper()
			if !reflect.DeepEqual(keep(st), before) || !slices.Equal(at, given) || at[:len(at)+2][len(at)] != 7 {
				t.Error(what, at, st)
			}
		}
		l, _ := Diff(st, "a", "b")
		stays("Diff")
		clear(l[:cap(l)])
		for _, to := range []string{"a", "b"} {
			got, _ := Copy(st, "a", to, at)
			stays("Copy")
			for _, p := range places(got) {
				if slices.Contains(places(st), p) {
					t.Error("Copy shares a text", at)
				}
			}
			overwrite(got)
			stays("what Copy answered")
		}
	}
}
