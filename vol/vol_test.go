package vol

import (
	"math"
	"reflect"
	"slices"
	"strings"
	"testing"
	"unsafe"

	"woolsack/api"
)

// slowSum divides bit by bit, by the modulus Small.
func slowSum(s string) int {
	p := 1
	for i := range len(s) {
		for bit := 7; bit >= 0; bit-- {
			p = p<<1 | int(s[i]>>bit)&1
			if p >= 1<<16 {
				p ^= 65581
			}
		}
	}
	return p
}

// alike makes the i-th, from 0 to 127, of the texts with the fingerprint of
// abc: they differ by multiples of the modulus.
func alike(i int) string {
	p := 0x616263
	for bit := range 7 {
		if i>>bit&1 == 1 {
			p ^= 65581 << bit
		}
	}
	return string([]byte{byte(p >> 16), byte(p >> 8), byte(p)})
}

func idOf(text string, n int) api.Id {
	return api.Id{Is: true, Sum: slowSum(text), N: n}
}

// hole stands for one in the lists of blocks that the tests write.
const hole = "(hole)"

// model of a state: the texts of the volumes, and the number of each text.
type model struct {
	vols map[string][]string
	ns   map[string]int
}

// refs counts the blocks with a text.
func (m model) refs(text string) int {
	n := 0
	for _, blocks := range m.vols {
		for _, x := range blocks {
			if x == text && x != hole {
				n++
			}
		}
	}
	return n
}

// take gives a text its number, if it has none yet.
func (m model) take(text string) {
	if _, there := m.ns[text]; there || text == hole {
		return
	}
	for n := 0; ; n++ {
		taken := false
		for other, x := range m.ns {
			taken = taken || slowSum(other) == slowSum(text) && x == n
		}
		if !taken {
			m.ns[text] = n
			return
		}
	}
}

// forget takes the numbers from texts that are used no more.
func (m model) forget() {
	for text := range m.ns {
		if m.refs(text) == 0 {
			delete(m.ns, text)
		}
	}
}

// state answers the state that a model stands for.
func (m model) state() api.State {
	var st api.State
	for text, n := range m.ns {
		st.Bag = append(st.Bag, api.Item{Sum: slowSum(text), N: n, Text: text, Refs: m.refs(text)})
	}
	slices.SortFunc(st.Bag, func(a, b api.Item) int { return (a.Sum-b.Sum)*100 + a.N - b.N })
	for name, blocks := range m.vols {
		v := api.Vol{Name: name}
		for _, text := range blocks {
			id := api.Id{}
			if text != hole {
				id = idOf(text, m.ns[text])
			}
			v.Blocks = append(v.Blocks, id)
		}
		st.Vols = append(st.Vols, v)
	}
	slices.SortFunc(st.Vols, func(a, b api.Vol) int { return strings.Compare(a.Name, b.Name) })
	return st
}

// of makes the state with these volumes; texts get their numbers in order of
// the names.
func of(vols map[string][]string) api.State {
	m := model{vols, map[string]int{}}
	var names []string
	for name := range vols {
		names = append(names, name)
	}
	slices.Sort(names)
	for _, name := range names {
		for _, text := range vols[name] {
			m.take(text)
		}
	}
	return m.state()
}

// texts lists n that differ.
func texts(from, n int) []string {
	var l []string
	for i := range n {
		l = append(l, string([]byte{byte(from + i), 'q'}))
	}
	return l
}

func holes(n int) []string { return slices.Repeat([]string{hole}, n) }

// full has a bag of 64 items, of which a, b and c have 32 each, c what a has.
func full() api.State {
	return of(map[string][]string{"a": texts(0, 32), "b": texts(32, 32), "c": texts(0, 32)})
}

// sixVols has all the volumes that there may be.
func sixVols() api.State {
	return of(map[string][]string{"a": {"x"}, "b1": {hole}, "b2": {"x", "y"}, "c": nil, "d": holes(32), "zzzzzzzzzzzz": {""}})
}

// states lists such as are valid.
func states() []api.State {
	ab := of(map[string][]string{"a": {"x", hole, "x", "y"}, "b": {"y", ""}})
	numbers := of(map[string][]string{"v": {alike(0), alike(1), alike(2), alike(1)}, "w": {alike(3), hole, "x"}})
	gaps := of(map[string][]string{"v": {"x"}})
	gaps.Bag[0].N, gaps.Vols[0].Blocks[0].N = 63, 63
	long := of(map[string][]string{"012345678901": {strings.Repeat("x", 64), strings.Repeat("\xff", 64)}})
	most := of(map[string][]string{"0": slices.Repeat([]string{"x"}, 32), "1": slices.Repeat([]string{"x"}, 32)})
	return []api.State{
		{}, {Bag: []api.Item{}, Vols: []api.Vol{}}, of(map[string][]string{"a": nil}), of(map[string][]string{"0": {hole}}),
		ab, numbers, gaps, long, most, full(), sixVols(),
	}
}

// like compares states field by field; empty and nil lists are alike.
func like(a, b api.State) bool {
	return slices.Equal(a.Bag, b.Bag) && slices.EqualFunc(a.Vols, b.Vols, func(x, y api.Vol) bool {
		return x.Name == y.Name && slices.Equal(x.Blocks, y.Blocks)
	})
}

// empty tells whether a state is of zero values.
func empty(st api.State) bool { return len(st.Bag) == 0 && len(st.Vols) == 0 }

// is expects the state got, without an error, to be want and valid.
func is(t *testing.T, got api.State, e api.Errno, want api.State) {
	t.Helper()
	if e != api.OK || !like(got, want) {
		t.Errorf("%d, got %v, want %v", e, got, want)
	}
	if c := Check(got); c != api.OK {
		t.Error("not valid:", c, got)
	}
}

// fails expects an error and nothing else.
func fails(t *testing.T, got api.State, e, want api.Errno) {
	t.Helper()
	if e != want || !empty(got) {
		t.Errorf("%d, want %d, got %v", e, want, got)
	}
}

func TestNameP32(t *testing.T) {
	for _, s := range []string{"a", "z", "0", "9", "m", "5", "abc", "0a9z", "abcdefghijkl", "012345678901", "zzzzzzzzzzzz"} {
		if !Name(s) {
			t.Errorf("%q", s)
		}
	}
	for _, s := range []string{
		"", "abcdefghijklm", "0123456789012", strings.Repeat("a", 256), strings.Repeat("a", 1<<20),
		"A", "Z", "aB", "a b", " a", "a ", "-", "a-b", "a_b", "a.b", "a/b", "ä", "aä", "a\x00", "\x00", "\xff", "a\n", "\u0661", "\uff41",
	} {
		if Name(s) {
			t.Errorf("%q", s)
		}
	}
	for c := range 256 {
		want := 'a' <= c && c <= 'z' || '0' <= c && c <= '9'
		for _, s := range []string{string([]byte{byte(c)}), string([]byte{'a', byte(c)}), string([]byte{byte(c), 'a'}), "abcdefghijk" + string([]byte{byte(c)})} {
			if Name(s) != want {
				t.Errorf("%q", s)
			}
		}
	}
}

func TestCheckP33(t *testing.T) {
	for _, st := range states() {
		if e := Check(st); e != api.OK {
			t.Error(e, st)
		}
	}
}

// wrong is a way to spoil the state that base makes, and its error.
type wrong struct {
	do   func(st *api.State)
	want api.Errno
}

func base() api.State {
	return of(map[string][]string{"b": {"x", hole, "y"}, "c": {"x", "z"}, "d": {hole, "z"}})
}

// bagWrongs, volWrongs and lastWrongs are in the order of their errors.
func bagWrongs() []wrong {
	return []wrong{
		{func(st *api.State) { st.Bag = make([]api.Item, 65) }, api.ErrLarge},
		{func(st *api.State) { st.Bag[1].Text = strings.Repeat("y", 65) }, api.ErrLarge},
		{func(st *api.State) { st.Bag[0].Sum++ }, api.ErrSum},
		{func(st *api.State) { st.Bag[2].N = 64 }, api.ErrArg},
		{func(st *api.State) { st.Bag[2].N = -1 }, api.ErrArg},
		{func(st *api.State) { st.Bag[1].Refs = 0 }, api.ErrArg},
		{func(st *api.State) { st.Bag[1].Refs = 1000001 }, api.ErrArg},
		{func(st *api.State) { st.Bag[0], st.Bag[1] = st.Bag[1], st.Bag[0] }, api.ErrForm},
		{func(st *api.State) { st.Bag = append(st.Bag, api.Item{Sum: slowSum("z"), N: 1, Text: "z", Refs: 1}) }, api.ErrThere},
	}
}

func manyVols(n int) []api.Vol {
	var l []api.Vol
	for i := range n {
		l = append(l, api.Vol{Name: "e" + string(rune('a'+i))})
	}
	return l
}

// volWrongs spoils the volume at i.
func volWrongs(i int) []wrong {
	return []wrong{
		{func(st *api.State) { st.Vols[i].Name = "" }, api.ErrForm},
		{func(st *api.State) { st.Vols[i].Name = "c-" }, api.ErrForm},
		{func(st *api.State) { st.Vols[i].Name = "cccccccccccccc" }, api.ErrForm},
		{func(st *api.State) { st.Vols[i].Name = "C" }, api.ErrForm},
		{func(st *api.State) { st.Vols[i].Blocks = make([]api.Id, 33) }, api.ErrLarge},
		{func(st *api.State) { st.Vols[i].Blocks = slices.Repeat([]api.Id{{Sum: 1}}, 33) }, api.ErrLarge},
		{func(st *api.State) { st.Vols[i].Blocks = slices.Repeat([]api.Id{{Is: true}}, 1000) }, api.ErrLarge},
		{func(st *api.State) { st.Vols[i].Blocks[1] = api.Id{Sum: 1} }, api.ErrForm},
		{func(st *api.State) { st.Vols[i].Blocks[1] = api.Id{N: 1} }, api.ErrForm},
		{func(st *api.State) { st.Vols[i].Blocks[1] = api.Id{N: -1} }, api.ErrForm},
		{func(st *api.State) { st.Vols[i].Blocks[1] = api.Id{Sum: math.MinInt} }, api.ErrForm},
		{func(st *api.State) { st.Vols[i].Blocks[1] = api.Id{Sum: slowSum("x")} }, api.ErrForm},
		{func(st *api.State) { st.Vols[i].Blocks[1] = api.Id{Is: true} }, api.ErrNone},
		{func(st *api.State) { st.Vols[i].Blocks[1] = idOf("x", 1) }, api.ErrNone},
		{func(st *api.State) { st.Vols[i].Blocks[1] = idOf("x", -1) }, api.ErrNone},
		{func(st *api.State) { st.Vols[i].Blocks[1] = idOf("w", 0) }, api.ErrNone},
		{func(st *api.State) { st.Vols[i].Blocks[1] = api.Id{Is: true, Sum: math.MaxInt, N: math.MinInt} }, api.ErrNone},
	}
}

func lastWrongs() []wrong {
	return []wrong{
		{func(st *api.State) { st.Bag[0].Refs++ }, api.ErrLen},
		{func(st *api.State) { st.Bag[0].Refs-- }, api.ErrLen},
		{func(st *api.State) { st.Bag[1].Refs = 1000000 }, api.ErrLen},
		{func(st *api.State) { st.Bag[2].Refs++ }, api.ErrLen},
		{func(st *api.State) { st.Bag[2].Refs--; st.Bag[0].Refs++ }, api.ErrLen},
		{func(st *api.State) { st.Vols[1].Blocks[0] = api.Id{} }, api.ErrLen},
		{func(st *api.State) { st.Vols[0].Blocks[1] = idOf("z", 0) }, api.ErrLen},
		{func(st *api.State) { st.Vols[1].Blocks[0], st.Vols[1].Blocks[1] = idOf("z", 0), idOf("z", 0) }, api.ErrLen},
		{func(st *api.State) { st.Vols = st.Vols[:2] }, api.ErrLen},
		{func(st *api.State) { st.Vols = nil }, api.ErrLen},
		{func(st *api.State) { st.Bag = append(st.Bag, api.Item{Sum: slowSum("{"), Text: "{", Refs: 1}) }, api.ErrLen},
	}
}

// tooMany is the error of the number of volumes, between those of the bag and
// those of a volume.
func tooMany() wrong {
	return wrong{func(st *api.State) { st.Vols = append(st.Vols, manyVols(7-len(st.Vols))...) }, api.ErrLarge}
}

// wrongs lists all of them, each with one error alone.
func wrongs() []wrong {
	l := append(bagWrongs(), tooMany())
	for i := range 3 {
		l = append(l, volWrongs(i)...)
	}
	order := []wrong{
		{func(st *api.State) { st.Vols[1].Name = "b" }, api.ErrForm},
		{func(st *api.State) { st.Vols[1].Name = "a" }, api.ErrForm},
		{func(st *api.State) { st.Vols[1].Name = "d" }, api.ErrForm},
		{func(st *api.State) { st.Vols[0].Name = "bb"; st.Vols[1].Name = "b" }, api.ErrForm},
		{func(st *api.State) { st.Vols[2].Name = "9" }, api.ErrForm},
	}
	return append(append(l, order...), lastWrongs()...)
}

func TestCheckErrorsP33(t *testing.T) {
	if e := Check(base()); e != api.OK {
		t.Fatal(e)
	}
	for i, w := range wrongs() {
		st := base()
		w.do(&st)
		if e := Check(st); e != w.want {
			t.Error(i, e, w.want, st)
		}
	}
}

func TestCheckNamesInByteOrderP33(t *testing.T) {
	for _, names := range [][]string{{"9", "a"}, {"a", "aa", "ab", "b"}, {"0", "00", "01", "1", "a0", "aa"}, {"ab9", "aba", "abz"}} {
		var st api.State
		for _, s := range names {
			st.Vols = append(st.Vols, api.Vol{Name: s})
		}
		if e := Check(st); e != api.OK {
			t.Error(names, e)
		}
		for i := 1; i < len(names); i++ {
			turned := slices.Clone(st.Vols)
			turned[i-1], turned[i] = turned[i], turned[i-1]
			if e := Check(api.State{Vols: turned}); e != api.ErrForm {
				t.Error(turned, e)
			}
			turned[i-1] = turned[i]
			if e := Check(api.State{Vols: turned}); e != api.ErrForm {
				t.Error(turned, e)
			}
		}
	}
}

// checks spoils base by both, the second first, and expects an error.
func checks(t *testing.T, first, second wrong, want api.Errno) {
	t.Helper()
	st := base()
	second.do(&st)
	first.do(&st)
	if e := Check(st); e != want {
		t.Error(e, want, st)
	}
}

func TestCheckOrderOfErrorsP33(t *testing.T) {
	vols := append(volWrongs(0), volWrongs(2)...)
	for _, b := range bagWrongs() {
		checks(t, b, tooMany(), b.want)
		for _, v := range vols {
			checks(t, b, v, b.want)
		}
	}
	for _, v := range vols {
		checks(t, tooMany(), v, api.ErrLarge)
		checks(t, v, lastWrongs()[0], v.want)
		checks(t, v, lastWrongs()[3], v.want)
	}
	for _, first := range volWrongs(0) {
		for _, second := range volWrongs(1) {
			checks(t, first, second, first.want)
		}
	}
	// Of one volume, the name goes ahead of the blocks.
	for _, name := range volWrongs(1)[:4] {
		for _, blocks := range volWrongs(1)[4:] {
			checks(t, name, blocks, api.ErrForm)
		}
	}
	// Of its blocks, the first one decides.
	form, none := api.Id{Sum: 1}, api.Id{Is: true}
	for _, c := range []struct {
		blocks []api.Id
		want   api.Errno
	}{{[]api.Id{form, none}, api.ErrForm}, {[]api.Id{none, form}, api.ErrNone}} {
		if e := Check(api.State{Vols: []api.Vol{{Name: "a", Blocks: c.blocks}}}); e != c.want {
			t.Error(c, e)
		}
	}
}

// deeds lists the calls that answer a state, each so that it works on base.
func deeds() map[string]func(st api.State) (api.State, api.Errno) {
	return map[string]func(st api.State) (api.State, api.Errno){
		"Make":  func(st api.State) (api.State, api.Errno) { return Make(st, "new", 3) },
		"Drop":  func(st api.State) (api.State, api.Errno) { return Drop(st, "b") },
		"Trim":  func(st api.State) (api.State, api.Errno) { return Trim(st, "b", 0) },
		"Write": func(st api.State) (api.State, api.Errno) { return Write(st, "b", 0, "w") },
		"Clone": func(st api.State) (api.State, api.Errno) { return Clone(st, "b", "new") },
	}
}

// badDeeds lists calls that have an error of their own on any state.
func badDeeds() []func(st api.State) (api.State, api.Errno) {
	long := strings.Repeat("x", 65)
	return []func(st api.State) (api.State, api.Errno){
		func(st api.State) (api.State, api.Errno) { return Make(st, "", 0) },
		func(st api.State) (api.State, api.Errno) { return Make(st, "-", 1) },
		func(st api.State) (api.State, api.Errno) { return Drop(st, "") },
		func(st api.State) (api.State, api.Errno) { return Drop(st, "none") },
		func(st api.State) (api.State, api.Errno) { return Trim(st, "none", -1) },
		func(st api.State) (api.State, api.Errno) { return Trim(st, "b", 99) },
		func(st api.State) (api.State, api.Errno) { return Write(st, "none", 0, "") },
		func(st api.State) (api.State, api.Errno) { return Write(st, "b", -1, "") },
		func(st api.State) (api.State, api.Errno) { return Write(st, "b", 0, long) },
		func(st api.State) (api.State, api.Errno) { return Clone(st, "none", "new") },
		func(st api.State) (api.State, api.Errno) { return Clone(st, "b", "-") },
		func(st api.State) (api.State, api.Errno) { return Clone(st, "b", "b") },
	}
}

func TestAllCheckFirstP33(t *testing.T) {
	for _, w := range wrongs() {
		st := base()
		w.do(&st)
		for _, do := range deeds() {
			got, e := do(st)
			fails(t, got, e, w.want)
		}
		for _, do := range badDeeds() {
			got, e := do(st)
			fails(t, got, e, w.want)
		}
		for _, name := range []string{"b", "none", ""} {
			if l, e := Blocks(st, name); len(l) != 0 || e != w.want {
				t.Error(l, e, w.want)
			}
			for _, at := range []int{0, 1, -1, 99} {
				if s, e := Read(st, name, at); s != "" || e != w.want {
					t.Error(s, e, w.want)
				}
			}
		}
	}
}

// names that no state of states has.
func strangers() []string {
	return []string{"", "none", "A", "a ", "aa", "b", strings.Repeat("a", 13), strings.Repeat("a", 1<<20), "\xff"}
}

func has(st api.State, name string) bool {
	return slices.ContainsFunc(st.Vols, func(v api.Vol) bool { return v.Name == name })
}

func TestBlocksP34(t *testing.T) {
	for _, st := range states() {
		for _, v := range st.Vols {
			if l, e := Blocks(st, v.Name); e != api.OK || !slices.Equal(l, v.Blocks) {
				t.Error(l, e, v)
			}
		}
		for _, name := range strangers() {
			if has(st, name) {
				continue
			}
			if l, e := Blocks(st, name); e != api.ErrNone || len(l) != 0 {
				t.Errorf("%q %v %d", name, l, e)
			}
		}
	}
}

func TestMakeP35(t *testing.T) {
	st, e := Make(api.State{}, "v", 3)
	is(t, st, e, api.State{Vols: []api.Vol{{Name: "v", Blocks: make([]api.Id, 3)}}})
	for _, n := range []int{1, 2, 31, 32} {
		for _, name := range []string{"0", "aa", "b0", "bz", "z", "abcdefghijkl"} {
			st, e := Make(of(map[string][]string{"a": {"x"}, "b": {"x", "y"}, "c": nil}), name, n)
			is(t, st, e, of(map[string][]string{"a": {"x"}, "b": {"x", "y"}, "c": nil, name: holes(n)}))
		}
	}
}

// Whatever the order they are made in, volumes are in the order of names.
func TestMakeInOrderP35(t *testing.T) {
	for _, names := range [][]string{{"a", "b", "c", "d", "e", "f"}, {"f", "e", "d", "c", "b", "a"}, {"9", "a", "0", "aa", "1", "a9"}} {
		var st api.State
		vols := map[string][]string{}
		for i, name := range names {
			var e api.Errno
			st, e = Make(st, name, i+1)
			vols[name] = holes(i + 1)
			is(t, st, e, of(vols))
		}
		st, e := Make(st, "more", 1)
		fails(t, st, e, api.ErrFull)
	}
}

func TestMakeErrorsP35(t *testing.T) {
	bad := []int{0, 33, -1, 64, math.MinInt, math.MaxInt}
	for _, st := range []api.State{{}, base(), sixVols()} {
		for _, n := range bad {
			for _, name := range []string{"new", "b", "a", "", "-"} {
				got, e := Make(st, name, n)
				fails(t, got, e, api.ErrArg)
			}
		}
		for _, name := range []string{"", "-", "B", "b ", strings.Repeat("b", 13), "\x00", "\xff"} {
			got, e := Make(st, name, 1)
			fails(t, got, e, api.ErrForm)
		}
		for _, v := range st.Vols {
			got, e := Make(st, v.Name, 32)
			fails(t, got, e, api.ErrThere)
		}
	}
	got, e := Make(sixVols(), "new", 1)
	fails(t, got, e, api.ErrFull)
}

func TestDropP35(t *testing.T) {
	vols := map[string][]string{"a": {"x", hole, "x", "y"}, "b": {"y", ""}, "c": {hole}}
	for _, c := range []struct {
		name string
		want map[string][]string
	}{
		{"a", map[string][]string{"b": {"y", ""}, "c": {hole}}},
		{"b", map[string][]string{"a": {"x", hole, "x", "y"}, "c": {hole}}},
		{"c", map[string][]string{"a": {"x", hole, "x", "y"}, "b": {"y", ""}}},
	} {
		got, e := Drop(of(vols), c.name)
		is(t, got, e, of(c.want))
	}
	got, e := Drop(of(map[string][]string{"v": {"x", "x"}}), "v")
	is(t, got, e, api.State{})
	got, e = Drop(of(map[string][]string{"v": nil}), "v")
	is(t, got, e, api.State{})
	got, e = Drop(full(), "b")
	is(t, got, e, of(map[string][]string{"a": texts(0, 32), "c": texts(0, 32)}))
	got, e = Drop(full(), "a")
	is(t, got, e, of(map[string][]string{"b": texts(32, 32), "c": texts(0, 32)}))
}

// A number that is free again is not taken by the blocks that stay.
func TestDropKeepsNumbersP35(t *testing.T) {
	st := of(map[string][]string{"v": {alike(0), alike(1)}, "w": {alike(2), alike(1)}})
	got, e := Drop(st, "v")
	m := model{map[string][]string{"w": {alike(2), alike(1)}}, map[string]int{alike(1): 1, alike(2): 2}}
	is(t, got, e, m.state())
}

func TestDropErrNoneP35(t *testing.T) {
	for _, st := range states() {
		for _, name := range strangers() {
			if !has(st, name) {
				got, e := Drop(st, name)
				fails(t, got, e, api.ErrNone)
			}
		}
	}
}

func TestReadP36(t *testing.T) {
	blocks := []string{"x", hole, "", strings.Repeat("\x00", 64), "y", "x", alike(0), alike(1), alike(2), hole}
	st := of(map[string][]string{"a": {"other"}, "v": blocks, "w": {alike(3)}})
	for at, want := range blocks {
		if want == hole {
			want = ""
		}
		if s, e := Read(st, "v", at); s != want || e != api.OK {
			t.Errorf("%d: %q %d", at, s, e)
		}
	}
	for at, want := range texts(32, 32) {
		if s, e := Read(full(), "b", at); s != want || e != api.OK {
			t.Errorf("%d: %q %d", at, s, e)
		}
	}
}

// placeFails expects the error of a place that is not there from all calls
// that take a place.
func placeFails(t *testing.T, st api.State, name string, at int, want api.Errno) {
	t.Helper()
	if s, e := Read(st, name, at); s != "" || e != want {
		t.Errorf("%q %d: %q %d", name, at, s, e)
	}
	got, e := Trim(st, name, at)
	fails(t, got, e, want)
	for _, text := range []string{"", "x", "new", strings.Repeat("x", 65)} {
		got, e = Write(st, name, at, text)
		fails(t, got, e, want)
	}
}

func TestNoSuchPlaceP36P37(t *testing.T) {
	for _, st := range states() {
		for _, name := range strangers() {
			for _, at := range []int{0, -1, 32} {
				if !has(st, name) {
					placeFails(t, st, name, at, api.ErrNone)
				}
			}
		}
		for _, v := range st.Vols {
			for _, at := range []int{-1, len(v.Blocks), len(v.Blocks) + 1, 32, 1000, math.MinInt, math.MaxInt} {
				placeFails(t, st, v.Name, at, api.ErrArg)
			}
		}
	}
}

func TestTrimP37(t *testing.T) {
	vols := func(a, b []string) api.State { return of(map[string][]string{"a": a, "b": b}) }
	st := vols([]string{"x", hole, "x", "y"}, []string{"y", "z"})
	for _, c := range []struct {
		name string
		at   int
		want api.State
	}{
		{"a", 0, vols([]string{hole, hole, "x", "y"}, []string{"y", "z"})},
		{"a", 1, st},
		{"a", 2, vols([]string{"x", hole, hole, "y"}, []string{"y", "z"})},
		{"a", 3, vols([]string{"x", hole, "x", hole}, []string{"y", "z"})},
		{"b", 0, vols([]string{"x", hole, "x", "y"}, []string{hole, "z"})},
		{"b", 1, vols([]string{"x", hole, "x", "y"}, []string{"y", hole})},
	} {
		got, e := Trim(st, c.name, c.at)
		is(t, got, e, c.want)
		again, e := Trim(got, c.name, c.at)
		is(t, again, e, c.want)
	}
}

func TestWriteP37(t *testing.T) {
	vols := func(a, b []string) api.State { return of(map[string][]string{"a": a, "b": b}) }
	long := strings.Repeat("w", 64)
	st := vols([]string{"x", hole, "x", "y"}, []string{"y", "z"})
	for _, c := range []struct {
		name string
		at   int
		text string
		want api.State
	}{
		{"a", 0, "x", st},
		{"a", 0, "y", vols([]string{"y", hole, "x", "y"}, []string{"y", "z"})},
		{"a", 1, "x", vols([]string{"x", "x", "x", "y"}, []string{"y", "z"})},
		{"a", 1, "new", vols([]string{"x", "new", "x", "y"}, []string{"y", "z"})},
		{"a", 1, "", vols([]string{"x", "", "x", "y"}, []string{"y", "z"})},
		{"a", 3, long, vols([]string{"x", hole, "x", long}, []string{"y", "z"})},
		{"b", 1, "z", st},
		{"b", 1, "new", vols([]string{"x", hole, "x", "y"}, []string{"y", "new"})},
		{"b", 1, "x", vols([]string{"x", hole, "x", "y"}, []string{"y", "x"})},
	} {
		got, e := Write(st, c.name, c.at, c.text)
		is(t, got, e, c.want)
		if s, e := Read(got, c.name, c.at); s != c.text || e != api.OK {
			t.Error(c, s, e)
		}
	}
}

// An empty block is no hole: it has an item.
func TestWriteEmptyTextP37(t *testing.T) {
	st, e := Write(of(map[string][]string{"v": {hole, hole}}), "v", 1, "")
	want := api.State{Bag: []api.Item{{Sum: 1, Refs: 1}}, Vols: []api.Vol{{Name: "v", Blocks: []api.Id{{}, {Is: true, Sum: 1}}}}}
	is(t, st, e, want)
}

// What was there goes first: so its number is free, even if the text is the
// same.
func TestWriteTrimsFirstP37(t *testing.T) {
	m := model{map[string][]string{"v": {alike(0), alike(1)}}, map[string]int{alike(0): 5, alike(1): 7}}
	got, e := Write(m.state(), "v", 0, alike(0))
	m.ns[alike(0)] = 0
	is(t, got, e, m.state())
	m = model{map[string][]string{"v": {alike(0), alike(1)}}, map[string]int{alike(0): 0, alike(1): 1}}
	got, e = Write(m.state(), "v", 0, alike(2))
	want := model{map[string][]string{"v": {alike(2), alike(1)}}, map[string]int{alike(2): 0, alike(1): 1}}
	is(t, got, e, want.state())
}

func TestWriteErrorsP37(t *testing.T) {
	for _, st := range states() {
		for _, v := range st.Vols {
			for at := range v.Blocks {
				got, e := Write(st, v.Name, at, strings.Repeat("x", 65))
				fails(t, got, e, api.ErrLarge)
			}
		}
	}
	got, e := Write(full(), "b", 0, strings.Repeat("x", 1<<20))
	fails(t, got, e, api.ErrLarge)
	// a shares its blocks with c, so no item goes; b has its own alone.
	for at := range 32 {
		got, e = Write(full(), "a", at, "new")
		fails(t, got, e, api.ErrFull)
		got, e = Write(full(), "b", at, "new")
		b := texts(32, 32)
		b[at] = "new"
		is(t, got, e, of(map[string][]string{"a": texts(0, 32), "b": b, "c": texts(0, 32)}))
		got, e = Write(full(), "a", at, texts(32, 32)[5])
		a := texts(0, 32)
		a[at] = texts(32, 32)[5]
		is(t, got, e, of(map[string][]string{"a": a, "b": texts(32, 32), "c": texts(0, 32)}))
	}
}

func TestCloneP38(t *testing.T) {
	a, b := []string{"x", hole, "x", "y"}, []string{"y", ""}
	st := of(map[string][]string{"a": a, "b": b, "c": nil})
	for _, to := range []string{"0", "aa", "ab", "b0", "d", "zzzzzzzzzzzz"} {
		got, e := Clone(st, "a", to)
		is(t, got, e, of(map[string][]string{"a": a, "b": b, "c": nil, to: a}))
		if len(got.Bag) != len(st.Bag) {
			t.Error("a clone requires no blocks")
		}
		got, e = Clone(st, "b", to)
		is(t, got, e, of(map[string][]string{"a": a, "b": b, "c": nil, to: b}))
		got, e = Clone(st, "c", to)
		is(t, got, e, of(map[string][]string{"a": a, "b": b, "c": nil, to: nil}))
	}
	got, e := Clone(full(), "b", "d")
	is(t, got, e, of(map[string][]string{"a": texts(0, 32), "b": texts(32, 32), "c": texts(0, 32), "d": texts(32, 32)}))
}

// A clone is written without a change to its original, and the other way.
func TestCloneStandsAloneP38(t *testing.T) {
	st, _ := Clone(of(map[string][]string{"a": {"x", "y"}}), "a", "b")
	got, e := Write(st, "b", 0, "z")
	is(t, got, e, of(map[string][]string{"a": {"x", "y"}, "b": {"z", "y"}}))
	got, e = Trim(got, "a", 1)
	is(t, got, e, of(map[string][]string{"a": {"x", hole}, "b": {"z", "y"}}))
	got, e = Drop(got, "a")
	is(t, got, e, of(map[string][]string{"b": {"z", "y"}}))
}

// All volumes of one block have the most references that there can be.
func TestCloneMostReferencesP38(t *testing.T) {
	x := slices.Repeat([]string{"x"}, 32)
	st := of(map[string][]string{"a": x})
	for i := 1; i < 6; i++ {
		var e api.Errno
		st, e = Clone(st, "a", string(rune('a'+i)))
		if e != api.OK || len(st.Bag) != 1 || st.Bag[0].Refs != 32*(i+1) {
			t.Fatal(st.Bag, e)
		}
	}
	is(t, st, api.OK, of(map[string][]string{"a": x, "b": x, "c": x, "d": x, "e": x, "f": x}))
}

func TestCloneErrorsP38(t *testing.T) {
	for _, st := range states() {
		for _, name := range strangers() {
			for _, to := range []string{"new", "", "-", "a", name} {
				if !has(st, name) {
					got, e := Clone(st, name, to)
					fails(t, got, e, api.ErrNone)
				}
			}
		}
		for _, v := range st.Vols {
			for _, to := range []string{"", "-", "B", strings.Repeat("b", 13), "\xff"} {
				got, e := Clone(st, v.Name, to)
				fails(t, got, e, api.ErrForm)
			}
			for _, w := range st.Vols {
				got, e := Clone(st, v.Name, w.Name)
				fails(t, got, e, api.ErrThere)
			}
		}
	}
	for _, v := range sixVols().Vols {
		got, e := Clone(sixVols(), v.Name, "new")
		fails(t, got, e, api.ErrFull)
	}
}

// put writes a text, or a hole, into a model, as long as there is room.
func (m model) put(name string, at int, text string) api.Errno {
	old := m.vols[name][at]
	m.vols[name][at] = hole
	_, there := m.ns[text]
	room := there || len(m.ns) < 64 || m.refs(old) == 0 && old != hole
	if text != hole && !room {
		m.vols[name][at] = old
		return api.ErrFull
	}
	m.forget()
	m.take(text)
	m.vols[name][at] = text
	return api.OK
}

// step does something by chance to both a model and a state.
func step(m model, st api.State, chance func(n int) int) (api.State, api.Errno, api.Errno) {
	names := []string{"a", "b", "c", "d", "e", "f", "g"}
	name, to, at := names[chance(7)], names[chance(7)], chance(32)
	blocks, there := m.vols[name]
	_, other := m.vols[to]
	var got api.State
	var e api.Errno
	kind := chance(40)
	switch {
	case kind == 0 && there:
		got, e = Drop(st, name)
		delete(m.vols, name)
		m.forget()
	case !there && len(m.vols) == 6:
		got, e = Make(st, name, at+1)
		return got, e, api.ErrFull
	case !there:
		got, e = Make(st, name, at+1)
		m.vols[name] = holes(at + 1)
	case kind < 4 && other:
		got, e = Clone(st, name, to)
		return got, e, api.ErrThere
	case kind < 4 && len(m.vols) == 6:
		got, e = Clone(st, name, to)
		return got, e, api.ErrFull
	case kind < 4:
		got, e = Clone(st, name, to)
		m.vols[to] = slices.Clone(blocks)
	case at >= len(blocks):
		got, e = Write(st, name, at, "x")
		return got, e, api.ErrArg
	case kind < 8:
		got, e = Trim(st, name, at)
		m.put(name, at, hole)
	default:
		text := []string{alike(chance(40)), texts(0, 60)[chance(60)]}[chance(2)]
		got, e = Write(st, name, at, text)
		return got, e, m.put(name, at, text)
	}
	return got, e, api.OK
}

// Volumes come and go, and the references are always those of the blocks.
func TestManyDeedsP35P37P38(t *testing.T) {
	x := uint32(7)
	chance := func(n int) int {
		x = x*1664525 + 1013904223
		return int(x>>8) % n
	}
	m := model{map[string][]string{}, map[string]int{}}
	var st api.State
	seen := map[api.Errno]int{}
	for i := range 6000 {
		got, e, want := step(m, st, chance)
		seen[want]++
		if e != want || want != api.OK && !empty(got) {
			t.Fatal(i, e, want, got)
		}
		if want == api.OK {
			st = got
		}
		if Check(st) != api.OK || !like(st, m.state()) {
			t.Fatal(i, st, m.state())
		}
	}
	if seen[api.OK] < 2000 || seen[api.ErrFull] < 50 {
		t.Error("the deeds are too few", seen)
	}
}

// span is a piece of memory.
type span struct{ from, to uintptr }

func spanOf(p unsafe.Pointer, size uintptr) span {
	return span{uintptr(p), uintptr(p) + size}
}

func spanOfText(s string) span { return spanOf(unsafe.Pointer(unsafe.StringData(s)), uintptr(len(s))) }

func spanOfIds(l []api.Id) span {
	return spanOf(unsafe.Pointer(unsafe.SliceData(l)), uintptr(cap(l))*unsafe.Sizeof(api.Id{}))
}

// spans lists all memory of a state, that of spare places too.
func spans(st api.State) []span {
	items, vols := st.Bag[:cap(st.Bag)], st.Vols[:cap(st.Vols)]
	l := []span{
		spanOf(unsafe.Pointer(unsafe.SliceData(items)), uintptr(len(items))*unsafe.Sizeof(api.Item{})),
		spanOf(unsafe.Pointer(unsafe.SliceData(vols)), uintptr(len(vols))*unsafe.Sizeof(api.Vol{})),
	}
	for _, x := range items {
		l = append(l, spanOfText(x.Text))
	}
	for _, v := range vols {
		l = append(l, spanOfText(v.Name), spanOfIds(v.Blocks))
	}
	return l
}

func overlap(a, b span) bool { return a.from < b.to && b.from < a.to }

// apart expects that spans share nothing with each other nor with those that
// are given.
func apart(t *testing.T, what string, l, given []span) {
	t.Helper()
	for i, x := range l {
		if slices.ContainsFunc(append(slices.Clone(given), l[:i]...), func(y span) bool { return overlap(x, y) }) {
			t.Error(what, "shares memory", i)
			return
		}
	}
}

// roomy copies a state, with something in spare places behind all its lists.
func roomy(st api.State) api.State {
	spare := api.Vol{Name: "spare", Blocks: []api.Id{{N: 8}}}
	vols := append(slices.Clone(st.Vols), spare, spare)
	for i, v := range st.Vols {
		vols[i].Blocks = append(slices.Clone(v.Blocks), api.Id{N: 9}, api.Id{N: 9})[:len(v.Blocks)]
	}
	items := append(slices.Clone(st.Bag), api.Item{Text: "spare"}, api.Item{Text: "spare"})
	return api.State{Bag: items[:len(st.Bag)], Vols: vols[:len(st.Vols)]}
}

// whole copies a state and all that stands in its spare places.
func whole(st api.State) api.State {
	items, vols := st.Bag[:cap(st.Bag)], slices.Clone(st.Vols[:cap(st.Vols)])
	for i, v := range vols {
		vols[i].Blocks = slices.Clone(v.Blocks[:cap(v.Blocks)])
	}
	return api.State{Bag: slices.Clone(items), Vols: vols}
}

func TestArgumentsStayAndResultsAreNewP2(t *testing.T) {
	all := strings.Clone("bnewtextxy")
	calls := deeds()
	calls["Make behind"] = func(st api.State) (api.State, api.Errno) { return Make(st, all[1:4], 32) }
	calls["Clone before"] = func(st api.State) (api.State, api.Errno) { return Clone(st, all[:1], all[:1]+"1") }
	calls["Drop the last"] = func(st api.State) (api.State, api.Errno) { return Drop(st, "d") }
	calls["Trim a hole"] = func(st api.State) (api.State, api.Errno) { return Trim(st, all[:1], 1) }
	calls["Trim the last"] = func(st api.State) (api.State, api.Errno) { return Trim(st, all[:1], 2) }
	calls["Write new"] = func(st api.State) (api.State, api.Errno) { return Write(st, all[:1], 1, all[4:8]) }
	calls["Write old"] = func(st api.State) (api.State, api.Errno) { return Write(st, all[:1], 1, all[8:9]) }
	for what, do := range calls {
		st := roomy(base())
		before := whole(st)
		got, e := do(st)
		if e != api.OK || !reflect.DeepEqual(whole(st), before) {
			t.Error(what, e, whole(st))
		}
		apart(t, what, spans(got), append(spans(st), spanOfText(all)))
	}
	for _, do := range badDeeds() {
		st := roomy(base())
		before := whole(st)
		if _, e := do(st); e == api.OK || !reflect.DeepEqual(whole(st), before) {
			t.Error(e, whole(st))
		}
	}
}

func TestReadsLeaveArgumentsP2(t *testing.T) {
	st := roomy(base())
	before := whole(st)
	Check(st)
	l, _ := Blocks(st, "b")
	apart(t, "Blocks", []span{spanOfIds(l)}, spans(st))
	s, _ := Read(st, "b", 0)
	apart(t, "Read", []span{spanOfText(s)}, spans(st))
	if s != "x" || len(l) != 3 || !reflect.DeepEqual(whole(st), before) {
		t.Error(s, l, whole(st))
	}
}
