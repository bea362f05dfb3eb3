package seg

import (
	"math"
	"slices"
	"strings"
	"testing"
	"unsafe"

	"woolsack/api"
	"woolsack/bag"
)

// slowSum divides bit by bit, by the modulus Small.
func slowSum(s string) int {
	p := 1
	for i := range len(s) {
		for bit := 7; bit >= 0; bit-- {
			p = p<<1 | int(s[i]>>bit)&1
			if p >= 1<<16 {
				p ^= 65581
			}
		}
	}
	return p
}

// alike makes "abc" of 0, and of 1 another text with the same fingerprint.
func alike(i int) string {
	p := 0x616263 ^ 65581*i
	return string([]byte{byte(p >> 16), byte(p >> 8), byte(p)})
}

func item(text string, n int) api.Item {
	return api.Item{Sum: slowSum(text), N: n, Text: text, Refs: 1}
}

func rec(text string, n int) api.Rec {
	return api.Rec{Id: api.Id{Is: true, Sum: slowSum(text), N: n}, Text: text}
}

// recs makes the records of texts, all with number 0.
func recs(texts ...string) []api.Rec {
	var l []api.Rec
	for _, s := range texts {
		l = append(l, rec(s, 0))
	}
	return l
}

// items makes a bag of texts that differ in their fingerprints.
func items(texts ...string) []api.Item {
	var l []api.Item
	for _, s := range texts {
		l = append(l, item(s, 0))
	}
	slices.SortFunc(l, func(a, b api.Item) int { return a.Sum - b.Sum })
	return l
}

// long makes a text of n bytes that begin with s.
func long(s string, n int) string { return s + strings.Repeat("-", n-len(s)) }

// sized makes a segment that takes n bytes, from 8 on.
func sized(n int) []api.Rec {
	var l []api.Rec
	for n > 0 {
		next := min(n, 72)
		// What is left must be enough for a record.
		if n > 72 && n < 80 {
			next = n - 8
		}
		l = append(l, rec(strings.Repeat("s", next-8), 0))
		n -= next
	}
	return l
}

func slowSize(l []api.Rec) int {
	n := 0
	for _, r := range l {
		n += 8 + len(r.Text)
	}
	return n
}

func like(a, b [][]api.Rec) bool {
	return slices.EqualFunc(a, b, func(x, y []api.Rec) bool { return slices.Equal(x, y) })
}

func copied(l [][]api.Rec) [][]api.Rec {
	var all [][]api.Rec
	for _, s := range l {
		all = append(all, slices.Clone(s))
	}
	return all
}

// slowPut makes a list of segments with one more record, however many.
func slowPut(l [][]api.Rec, r api.Rec) [][]api.Rec {
	all := copied(l)
	if n := len(all); n > 0 && slowSize(append(slices.Clone(all[n-1]), r)) <= 200 {
		all[n-1] = append(all[n-1], r)
		return all
	}
	return append(all, []api.Rec{r})
}

// slowLive tells of each segment's records which of them are live.
func slowLive(l [][]api.Rec, b []api.Item) [][]api.Rec {
	type place struct{ i, j int }
	last, there := map[api.Rec]place{}, map[api.Rec]bool{}
	for i, s := range l {
		for j, r := range s {
			last[r] = place{i, j}
		}
	}
	for _, x := range b {
		there[api.Rec{Id: api.Id{Is: true, Sum: x.Sum, N: x.N}, Text: x.Text}] = true
	}
	live := make([][]api.Rec, len(l))
	for i, s := range l {
		for j, r := range s {
			if there[r] && last[r] == (place{i, j}) {
				live[i] = append(live[i], r)
			}
		}
	}
	return live
}

func slowClean(l [][]api.Rec, b []api.Item) [][]api.Rec {
	live := slowLive(l, b)
	least := 0
	for i := range live {
		if slowSize(live[i]) < slowSize(live[least]) {
			least = i
		}
	}
	var all [][]api.Rec
	for i, s := range l {
		if i != least {
			all = append(all, slices.Clone(s))
		}
	}
	for _, r := range live[least] {
		all = slowPut(all, r)
	}
	return all
}

// goodSegments lists such as are valid, at their bounds.
func goodSegments() [][]api.Rec {
	odd := []api.Rec{
		{Id: api.Id{Is: true}}, {Id: api.Id{Is: true, Sum: -1, N: -1}, Text: "x"},
		{Id: api.Id{Is: true, Sum: math.MinInt, N: math.MaxInt}}, {Id: api.Id{Is: true, Sum: math.MaxInt, N: math.MinInt}, Text: "\xff\x00"},
	}
	return [][]api.Rec{
		recs(""), recs("x"), recs(strings.Repeat("x", 64)), recs("x", "x", "y", "x"), odd,
		slices.Repeat(recs(""), 25), recs(long("a", 64), long("b", 64), long("c", 48)), sized(199), sized(200),
	}
}

// badSegments lists such as are wrong, and how.
func badSegments() []struct {
	s    []api.Rec
	want api.Errno
} {
	hole, numbered := api.Rec{}, api.Rec{Id: api.Id{Sum: 376, N: 1}, Text: "x"}
	tooLong := rec(strings.Repeat("x", 65), 0)
	both := api.Rec{Text: tooLong.Text}
	heavy := recs(long("a", 64), long("b", 64), long("c", 49))
	return []struct {
		s    []api.Rec
		want api.Errno
	}{
		{nil, api.ErrForm},
		{[]api.Rec{}, api.ErrForm},
		{[]api.Rec{hole}, api.ErrForm},
		{[]api.Rec{numbered}, api.ErrForm},
		{append(recs("x", "y"), hole), api.ErrForm},
		{append([]api.Rec{numbered}, recs("x", "y")...), api.ErrForm},
		{[]api.Rec{tooLong}, api.ErrLarge},
		{recs("x", strings.Repeat("y", 65), "z"), api.ErrLarge},
		{recs(strings.Repeat("x", 601)), api.ErrLarge},
		{recs(strings.Repeat("x", 1<<16)), api.ErrLarge},
		// Of one record, Is counts first; of two, the first one decides.
		{[]api.Rec{both}, api.ErrForm},
		{[]api.Rec{tooLong, hole}, api.ErrLarge},
		{[]api.Rec{hole, tooLong}, api.ErrForm},
		{[]api.Rec{tooLong, both}, api.ErrLarge},
		{heavy, api.ErrLarge},
		{sized(201), api.ErrLarge},
		{sized(208), api.ErrLarge},
		{slices.Repeat(recs(""), 26), api.ErrLarge},
		{slices.Repeat(recs("x"), 10000), api.ErrLarge},
		// All records come ahead of what they take together.
		{append(slices.Clone(heavy), hole), api.ErrForm},
		{append(slices.Repeat(recs(""), 26), numbered), api.ErrForm},
		{append(slices.Clone(heavy), tooLong, hole), api.ErrLarge},
	}
}

// lists has lists of segments that are valid.
func lists() [][][]api.Rec {
	all := [][][]api.Rec{nil, {}}
	good := goodSegments()
	for i := range good {
		all = append(all, good[i:i+1], good[:i+1], slices.Repeat(good[i:i+1], 16))
	}
	return append(all, append(good, good[:7]...))
}

func badBags() map[api.Errno][]api.Item {
	wrong := items("x")
	wrong[0].Sum++
	unused := items("x")
	unused[0].Refs = 0
	return map[api.Errno][]api.Item{
		api.ErrLarge: make([]api.Item, 65),
		api.ErrSum:   wrong,
		api.ErrArg:   unused,
		api.ErrForm:  {item("x", 0), item("x", 0)},
		api.ErrThere: {item("x", 0), item("x", 1)},
	}
}

func TestSizesOfSamples(t *testing.T) {
	for n := 8; n <= 300; n++ {
		l := sized(n)
		if slowSize(l) != n || slices.ContainsFunc(l, func(r api.Rec) bool { return len(r.Text) > 64 }) {
			t.Error(n, l)
		}
	}
	if alike(0) != "abc" || alike(1) == "abc" || slowSum(alike(1)) != slowSum("abc") {
		t.Error(alike(1))
	}
}

func TestCheckTakesP52(t *testing.T) {
	for _, l := range lists() {
		if e := Check(l); e != api.OK {
			t.Error(l, e)
		}
	}
}

func TestCheckRoomP52(t *testing.T) {
	for n := 8; n <= 300; n++ {
		want := api.OK
		if n > 200 {
			want = api.ErrLarge
		}
		if e := Check([][]api.Rec{sized(n)}); e != want {
			t.Error(n, e, want)
		}
	}
}

// fails expects that all functions tell the same of a list, with a bag and a
// record that are wrong too.
func fails(t *testing.T, l [][]api.Rec, want api.Errno) {
	t.Helper()
	if e := Check(l); e != want {
		t.Errorf("Check %d: %d, want %d", len(l), e, want)
	}
	for _, r := range []api.Rec{rec("x", 0), {}, rec(strings.Repeat("x", 65), 0)} {
		putFails(t, l, r, want)
	}
	bags := [][]api.Item{nil, items("x", "y")}
	for _, b := range badBags() {
		bags = append(bags, b)
	}
	for _, b := range bags {
		bagFails(t, l, b, want)
	}
}

func putFails(t *testing.T, l [][]api.Rec, r api.Rec, want api.Errno) {
	t.Helper()
	if got, e := Put(l, r); len(got) != 0 || e != want {
		t.Errorf("Put %d %v: %v %d, want %d", len(l), r, got, e, want)
	}
}

func bagFails(t *testing.T, l [][]api.Rec, b []api.Item, want api.Errno) {
	t.Helper()
	if n, e := Live(l, b); len(n) != 0 || e != want {
		t.Errorf("Live %d: %v %d, want %d", len(l), n, e, want)
	}
	if got, e := Clean(l, b); len(got) != 0 || e != want {
		t.Errorf("Clean %d: %v %d, want %d", len(l), got, e, want)
	}
}

func TestCheckErrorsP52P53P54P55(t *testing.T) {
	good := goodSegments()
	for i, c := range badSegments() {
		fails(t, [][]api.Rec{c.s}, c.want)
		fails(t, [][]api.Rec{good[0], c.s}, c.want)
		fails(t, [][]api.Rec{c.s, good[0]}, c.want)
		for at := range 16 {
			l := slices.Repeat(good[1:2], 16)
			l[at] = c.s
			fails(t, l, c.want)
		}
		// The first segment with an error decides.
		for _, d := range badSegments()[i:] {
			fails(t, [][]api.Rec{good[0], c.s, d.s}, c.want)
			fails(t, [][]api.Rec{d.s, good[1], c.s}, d.want)
		}
	}
}

func TestCheckTooManySegmentsP52P53P54P55(t *testing.T) {
	for _, n := range []int{17, 18, 100, 1 << 16} {
		fails(t, slices.Repeat([][]api.Rec{recs("x")}, n), api.ErrLarge)
		// Ahead of whatever is wrong with a segment.
		fails(t, make([][]api.Rec, n), api.ErrLarge)
	}
	fails(t, make([][]api.Rec, 16), api.ErrForm)
	fails(t, slices.Repeat([][]api.Rec{{{}}}, 17), api.ErrLarge)
}

func puts(t *testing.T, l [][]api.Rec, r api.Rec, want [][]api.Rec) {
	t.Helper()
	if got, e := Put(l, r); !like(got, want) || e != api.OK || Check(got) != api.OK {
		t.Errorf("%v %v: %v %d, want %v", l, r, got, e, want)
	}
}

func TestPutP53(t *testing.T) {
	x, y, full := rec("x", 0), rec("y", 5), sized(200)
	for _, c := range []struct {
		l    [][]api.Rec
		r    api.Rec
		want [][]api.Rec
	}{
		{nil, x, [][]api.Rec{{x}}},
		{[][]api.Rec{}, y, [][]api.Rec{{y}}},
		{[][]api.Rec{{x}}, y, [][]api.Rec{{x, y}}},
		{[][]api.Rec{{y, x}}, x, [][]api.Rec{{y, x, x}}},
		{[][]api.Rec{{x}, {y}}, x, [][]api.Rec{{x}, {y, x}}},
		{[][]api.Rec{full}, x, [][]api.Rec{full, {x}}},
		{[][]api.Rec{full, {x}}, y, [][]api.Rec{full, {x, y}}},
		// Room in an earlier segment is not for new records.
		{[][]api.Rec{{x}, full}, y, [][]api.Rec{{x}, full, {y}}},
		// Neither the identifier nor the bytes need be known ones.
		{nil, api.Rec{Id: api.Id{Is: true, Sum: -3, N: math.MaxInt}, Text: "\xff\x00"}, [][]api.Rec{{{Id: api.Id{Is: true, Sum: -3, N: math.MaxInt}, Text: "\xff\x00"}}}},
		{[][]api.Rec{sized(192)}, api.Rec{Id: api.Id{Is: true}}, [][]api.Rec{append(sized(192), api.Rec{Id: api.Id{Is: true}})}},
		{[][]api.Rec{sized(193)}, api.Rec{Id: api.Id{Is: true}}, [][]api.Rec{sized(193), {api.Rec{Id: api.Id{Is: true}}}}},
	} {
		puts(t, c.l, c.r, c.want)
	}
}

// Every size of a record behind every size of a segment.
func TestPutRoomP53(t *testing.T) {
	for n := 8; n <= 200; n++ {
		for size := range 65 {
			r := rec(strings.Repeat("r", size), 1)
			for _, before := range []int{0, 1, 14} {
				l := append(slices.Repeat([][]api.Rec{recs("x")}, before), sized(n))
				if n+8+size <= 200 {
					puts(t, l, r, append(slices.Clone(l[:before]), append(sized(n), r)))
				} else {
					puts(t, l, r, append(slices.Clone(l), []api.Rec{r}))
				}
			}
		}
	}
}

func TestPutErrorsP53(t *testing.T) {
	x := recs("x")
	full := slices.Repeat([][]api.Rec{sized(200)}, 16)
	for _, l := range append(lists(), full) {
		for _, r := range []api.Rec{{}, {Text: "x"}, {Id: api.Id{Sum: 376}, Text: "x"}, {Text: strings.Repeat("x", 65)}} {
			putFails(t, l, r, api.ErrForm)
		}
		for _, n := range []int{65, 193, 601, 1 << 16} {
			putFails(t, l, rec(strings.Repeat("x", n), 0), api.ErrLarge)
		}
	}
	putFails(t, full, x[0], api.ErrFull)
	putFails(t, full, api.Rec{Id: api.Id{Is: true}}, api.ErrFull)
	// Room that is left in another segment does not count, and in the last one
	// only if it is enough.
	l := slices.Repeat([][]api.Rec{x}, 16)
	l[15] = sized(150)
	putFails(t, l, rec(strings.Repeat("r", 43), 0), api.ErrFull)
	r := rec(strings.Repeat("r", 42), 0)
	puts(t, l, r, append(slices.Clone(l[:15]), append(sized(150), r)))
	puts(t, full[:15], x[0], append(full[:15:15], x))
}

func lives(t *testing.T, l [][]api.Rec, b []api.Item, want ...int) {
	t.Helper()
	if n, e := Live(l, b); !slices.Equal(n, want) || e != api.OK {
		t.Errorf("%v %v: %v %d, want %v", l, b, n, e, want)
	}
}

func TestLiveP54(t *testing.T) {
	x, y := rec("x", 0), rec("y", 0)
	xy, two := items("x", "y"), recs("x", "y", "zz", "")
	lives(t, nil, nil)
	lives(t, nil, xy)
	lives(t, [][]api.Rec{{x}}, nil, 0)
	lives(t, [][]api.Rec{{x}}, xy, 9)
	lives(t, [][]api.Rec{two}, xy, 18)
	lives(t, [][]api.Rec{two}, items("zz"), 10)
	lives(t, [][]api.Rec{two}, items(""), 8)
	lives(t, [][]api.Rec{two}, items("", "x", "y", "zz"), 36)
	lives(t, [][]api.Rec{two}, items("z"), 0)
	lives(t, [][]api.Rec{{y}, {x, y}, two[2:]}, items("x", "zz"), 0, 9, 10)
	// How often a block is used does not count.
	many := items("x")
	many[0].Refs = 1000000
	lives(t, [][]api.Rec{{x}, {y}}, many, 9, 0)
	lives(t, [][]api.Rec{sized(200)}, nil, 0)
	lives(t, [][]api.Rec{recs(strings.Repeat("x", 64))}, items(strings.Repeat("x", 64)), 72)
}

// Identifier and string must both be those of one item.
func TestLiveComparesIdentifierAndStringP54(t *testing.T) {
	a, b := alike(0), alike(1)
	l := []api.Item{item(a, 0), item(b, 3)}
	for _, r := range []api.Rec{
		rec(a, 3), rec(b, 0), rec(a, 1), rec(b, 1), rec(b, -3), rec("", 0), rec("x", 3),
		{Id: rec(a, 0).Id, Text: "abd"}, {Id: rec(a, 0).Id}, {Id: rec(a, 0).Id, Text: a + "\x00"}, {Id: rec(a, 0).Id, Text: b}, {Id: rec("x", 0).Id, Text: a},
		{Id: api.Id{Is: true, Sum: -slowSum(a)}, Text: a}, {Id: api.Id{Is: true, Sum: slowSum(a) ^ 65581}, Text: a}, {Id: api.Id{Is: true, N: slowSum(a)}, Text: a},
	} {
		lives(t, [][]api.Rec{{r}}, l, 0)
		// Nor does it take the place of one that is live.
		lives(t, [][]api.Rec{{rec(a, 0), r}, {rec(b, 3)}, {r}}, l, 11, 11, 0)
	}
	lives(t, [][]api.Rec{{rec(a, 0), rec(b, 3)}}, l, 22)
}

func TestLiveCountsTheLastOfEqualsP54(t *testing.T) {
	x, y := rec("x", 0), rec("yy", 0)
	b := items("x", "yy")
	lives(t, [][]api.Rec{{x, x}}, b, 9)
	lives(t, [][]api.Rec{{x, x, x}, {y}}, b, 9, 10)
	lives(t, [][]api.Rec{{x}, {x}}, b, 0, 9)
	lives(t, [][]api.Rec{{x, y}, {x}}, b, 10, 9)
	lives(t, [][]api.Rec{{y, x}, {y, y}, {x, y, x}}, b, 0, 0, 19)
	lives(t, [][]api.Rec{{x}, {y}, {x}, {y}}, b, 0, 0, 9, 10)
	lives(t, slices.Repeat([][]api.Rec{{x}}, 16), b, append(make([]int, 15), 9)...)
	lives(t, slices.Repeat([][]api.Rec{{x}}, 16), items("yy"), make([]int, 16)...)
	lives(t, [][]api.Rec{slices.Repeat(recs(""), 25)}, items(""), 8)
}

func TestBagErrorsP54P55(t *testing.T) {
	for want, b := range badBags() {
		for _, l := range lists() {
			bagFails(t, l, b, want)
		}
	}
}

func cleans(t *testing.T, l [][]api.Rec, b []api.Item, want [][]api.Rec) {
	t.Helper()
	if got, e := Clean(l, b); !like(got, want) || e != api.OK || Check(got) != api.OK {
		t.Errorf("%v %v: %v %d, want %v", l, b, got, e, want)
	}
}

func TestCleanP55(t *testing.T) {
	x, y, z := rec("x", 0), rec("y", 0), rec("zz", 0)
	all := items("x", "y", "zz")
	for _, c := range []struct {
		l    [][]api.Rec
		b    []api.Item
		want [][]api.Rec
	}{
		{[][]api.Rec{{x}}, nil, nil},
		{[][]api.Rec{{x, y, x}}, items("zz"), nil},
		{[][]api.Rec{{x}}, all, [][]api.Rec{{x}}},
		{[][]api.Rec{{x, y, x}}, all, [][]api.Rec{{y, x}}},
		{[][]api.Rec{{z, x, y}}, items("x", "zz"), [][]api.Rec{{z, x}}},
		// Of several the first one goes.
		{[][]api.Rec{{x}, {y}}, nil, [][]api.Rec{{y}}},
		{[][]api.Rec{{x}, {y}}, all, [][]api.Rec{{y, x}}},
		{[][]api.Rec{{z}, {x}, {y}}, all, [][]api.Rec{{z}, {y, x}}},
		{[][]api.Rec{{z}, {x}, {y}}, items("zz"), [][]api.Rec{{z}, {y}}},
		{[][]api.Rec{{x, y}, {z}}, all, [][]api.Rec{{x, y, z}}},
		// Only the removed segment loses what is not live.
		{[][]api.Rec{{x, y}, {y, z}, {z}}, items("x", "zz"), [][]api.Rec{{x, y}, {z}}},
		{[][]api.Rec{{z, x}, {y, x}, {z, y}}, all, [][]api.Rec{{y, x}, {z, y}}},
		{[][]api.Rec{{y, z, y}, {x, y}, {y, x}}, items("x", "zz"), [][]api.Rec{{y, z, y}, {y, x}}},
		// The last one's own records come back behind the one before.
		{[][]api.Rec{{z}, {y, x}}, items("x", "zz"), [][]api.Rec{{z, x}}},
	} {
		cleans(t, c.l, c.b, c.want)
	}
}

// Neither the number of live records nor what the others take is looked at.
func TestCleanTakesTheFewestLiveBytesP55(t *testing.T) {
	big, dead := long("b", 64), long("d", 64)
	all := items(big, "", "x", "y")
	cleans(t, [][]api.Rec{recs(big), recs("x", "y")}, all, [][]api.Rec{recs(big, "x", "y")})
	cleans(t, [][]api.Rec{recs("x", "y"), recs(dead, dead, "")}, all, [][]api.Rec{recs("x", "y", "")})
	cleans(t, [][]api.Rec{recs(big, dead, dead[:48]), recs(dead, big[:9], "x"), recs("y")}, all, [][]api.Rec{recs(big, dead, dead[:48]), recs("y", "x")})
	cleans(t, [][]api.Rec{recs("x", big), recs(""), recs("y", dead)}, all, [][]api.Rec{recs("x", big), recs("y", dead, "")})
	cleans(t, [][]api.Rec{recs("x"), recs(dead), recs("y", dead)}, all, [][]api.Rec{recs("x"), recs("y", dead)})
	// A byte more or less decides.
	a, b := long("a", 30), long("b", 31)
	cleans(t, [][]api.Rec{recs(b), recs(a), recs(big)}, items(a, b, big), [][]api.Rec{recs(b), recs(big, a)})
	cleans(t, [][]api.Rec{recs(a), recs(b), recs(big)}, items(a, b, big), [][]api.Rec{recs(b), recs(big, a)})
}

// The first record that has no room opens a segment, and those behind it go
// there even if they had room before.
func TestCleanAppendsAsPutP55(t *testing.T) {
	a, b, c := long("a", 20), long("b", 40), long("c", 10)
	x, y, z := long("x", 64), long("y", 64), long("z", 12)
	all := items(a, b, c, x, y, z)
	last := recs(x, y, z)
	cleans(t, [][]api.Rec{recs(a, b, c), last}, all, [][]api.Rec{recs(x, y, z, a), recs(b, c)})
	cleans(t, [][]api.Rec{recs(b, a, c), last}, all, [][]api.Rec{last, recs(b, a, c)})
	cleans(t, [][]api.Rec{recs(c, a, b), last}, all, [][]api.Rec{recs(x, y, z, c), recs(a, b)})
	cleans(t, [][]api.Rec{recs(a, b, c), recs(x, y), last}, items(a, c, b, z, x, y), [][]api.Rec{recs(a, b, c), last})
	// A segment that is full, and all of it live, moves to the end.
	p, q := long("p", 64), long("q", 48)
	full := recs(p, long("o", 64), q)
	cleans(t, [][]api.Rec{full, recs(x, y, long("z", 48))}, items(p, q, long("o", 64), x, y, long("z", 48)), [][]api.Rec{recs(x, y, long("z", 48)), full})
}

// As many segments as there may be, all of them full and live, are cleaned
// too.
func TestCleanOfFullSegmentsP55(t *testing.T) {
	var l [][]api.Rec
	var b []api.Item
	for i := range 16 {
		name := string(rune('a' + i))
		s := recs(long(name+"0", 64), long(name+"1", 64), long(name+"2", 48))
		l = append(l, s)
		for _, r := range s {
			var e api.Errno
			if b, _, e = bag.Put(b, r.Text); e != api.OK {
				t.Fatal(e)
			}
		}
	}
	for range 32 {
		cleans(t, l, b, append(slices.Clone(l[1:]), l[0]))
		l, _ = Clean(l, b)
	}
	b, _ = bag.Drop(b, l[7][1].Id)
	cleans(t, l, b, append(append(slices.Clone(l[:7]), l[8:]...), []api.Rec{l[7][0], l[7][2]}))
}

func TestCleanErrNoneP55(t *testing.T) {
	for _, b := range [][]api.Item{nil, items("x", "y")} {
		for _, l := range [][][]api.Rec{nil, {}} {
			if got, e := Clean(l, b); len(got) != 0 || e != api.ErrNone {
				t.Error(got, e)
			}
			lives(t, l, b)
		}
	}
}

// chances makes numbers that look like chance.
func chances(x uint32) func(n int) int {
	return func(n int) int {
		x = x*1664525 + 1013904223
		return int(x>>8) % n
	}
}

// Any segments and any bag, with records that are close to each other.
func TestLiveAndCleanOfManyP54P55(t *testing.T) {
	chance := chances(54)
	texts := []string{"", "x", alike(0), alike(1), long("p", 40), long("q", 64), long("r", 64)}
	for range 5000 {
		var l [][]api.Rec
		for range chance(30) {
			if next := slowPut(l, rec(texts[chance(len(texts))], chance(2))); len(next) <= 16 {
				l = next
			}
			// Segments need not be filled.
			if chance(4) == 0 && len(l) < 16 {
				l = append(l, []api.Rec{rec(texts[chance(len(texts))], chance(2))})
			}
		}
		var b []api.Item
		for _, text := range texts {
			if chance(2) == 0 {
				b, _, _ = bag.Put(b, text)
			}
		}
		var want []int
		for _, s := range slowLive(l, b) {
			want = append(want, slowSize(s))
		}
		lives(t, l, b, want...)
		if len(l) > 0 {
			cleans(t, l, b, slowClean(l, b))
		}
	}
}

// kept lists the live records of all segments, sorted.
func kept(l [][]api.Rec, b []api.Item) []api.Rec {
	all := slices.Concat(slowLive(l, b)...)
	slices.SortFunc(all, func(x, y api.Rec) int { return (x.Id.Sum-y.Id.Sum)*100 + x.Id.N - y.Id.N })
	return all
}

// Blocks come and go; whenever there is no room, segments are cleaned until
// there is, and each block of the bag is found where it was laid.
func TestSegmentsThatAreUsedP53P54P55(t *testing.T) {
	chance := chances(53)
	var l [][]api.Rec
	var b []api.Item
	cleaned := 0
	for range 4000 {
		if len(b) > 30 || len(b) > 0 && chance(3) == 0 {
			x := b[chance(len(b))]
			b, _ = bag.Drop(b, api.Id{Is: true, Sum: x.Sum, N: x.N})
		} else {
			text := long(alike(chance(2))+string([]byte{byte(chance(40))}), 4+chance(61))
			next, id, e := bag.Put(b, text)
			if e != api.OK {
				t.Fatal(e)
			}
			b = next
			m, e := Put(l, api.Rec{Id: id, Text: text})
			for tries := 0; e == api.ErrFull && tries < 100; tries++ {
				if l, e = Clean(l, b); e != api.OK {
					t.Fatal(e)
				}
				m, e = Put(l, api.Rec{Id: id, Text: text})
				cleaned++
			}
			if e != api.OK {
				t.Fatal(e)
			}
			l = m
		}
		found := kept(l, b)
		if len(found) != len(b) || Check(l) != api.OK {
			t.Fatal(len(found), len(b), Check(l))
		}
		for i, x := range b {
			if found[i] != (api.Rec{Id: api.Id{Is: true, Sum: x.Sum, N: x.N}, Text: x.Text}) {
				t.Fatal(i, found[i], x)
			}
		}
	}
	if cleaned < 100 {
		t.Error("too few", cleaned)
	}
}

func TestNothingPanicsP1(t *testing.T) {
	var all [][]api.Rec
	for _, c := range badSegments() {
		all = append(all, c.s)
	}
	all = append(all, goodSegments()...)
	chance := chances(1)
	for range 20000 {
		l := make([][]api.Rec, chance(19))
		for i := range l {
			l[i] = all[chance(len(all))]
		}
		b := make([]api.Item, chance(4))
		for i := range b {
			b[i] = api.Item{Sum: chance(3) - 1, N: chance(3) - 1, Text: strings.Repeat("x", chance(70)), Refs: chance(3)}
		}
		r := api.Rec{Id: api.Id{Is: chance(2) == 0, Sum: -chance(9)}, Text: strings.Repeat("x", chance(70))}
		want := Check(l)
		if got, e := Put(l, r); e != api.OK && len(got) != 0 || want != api.OK && e != want {
			t.Fatal(l, r, got, e)
		}
		n, e := Live(l, b)
		if e == api.OK && len(n) != len(l) || e != api.OK && len(n) != 0 || want != api.OK && e != want {
			t.Fatal(l, b, n, e)
		}
		if got, e := Clean(l, b); e != api.OK && len(got) != 0 || want != api.OK && e != want {
			t.Fatal(l, b, got, e)
		}
	}
	fails(t, [][]api.Rec{make([]api.Rec, 1<<20)}, api.ErrForm)
	fails(t, [][]api.Rec{slices.Repeat(recs(""), 1<<16)}, api.ErrLarge)
}

// withSpare lays the segments one behind another in one piece of memory, with
// something behind the end of each list.
func withSpare(l [][]api.Rec) [][]api.Rec {
	memory := append(slices.Concat(l...), recs("spare", "spare")...)
	all := make([][]api.Rec, 0, len(l)+2)
	at := 0
	for _, s := range l {
		all = append(all, memory[at:at+len(s)])
		at += len(s)
	}
	return append(all, recs("more"), recs("more"))[:len(l)]
}

// whole copies a list with all that stands in its spare places.
func whole(l [][]api.Rec) [][]api.Rec {
	var all [][]api.Rec
	for _, s := range l[:cap(l)] {
		all = append(all, slices.Clone(s[:cap(s)]))
	}
	return all
}

// overwrite spoils all lists, the spare places too.
func overwrite(l [][]api.Rec) {
	for _, s := range l[:cap(l)] {
		for i := range s[:cap(s)] {
			s[:cap(s)][i] = api.Rec{Id: api.Id{Sum: -1, N: -1}, Text: "none"}
		}
	}
	clear(l[:cap(l)])
}

func someRecs() []api.Rec {
	return append(recs("", "x", "new", strings.Repeat("x", 64), strings.Repeat("x", 65)), api.Rec{})
}

func TestArgumentsStayP2(t *testing.T) {
	bags := [][]api.Item{nil, items("", "x"), items("x", strings.Repeat("s", 64), long("a", 64))}
	for _, given := range append(lists(), [][]api.Rec{recs("x", ""), recs("x")}) {
		l := withSpare(given)
		before := whole(l)
		left := func(what string) {
			t.Helper()
			if !like(whole(l), before) {
				t.Fatal(what, given)
			}
		}
		Check(l)
		left("Check")
		for _, r := range someRecs() {
			got, _ := Put(l, r)
			left("Put")
			overwrite(got)
			left("what Put answered")
		}
		for _, plain := range bags {
			b := append(slices.Clone(plain), item("spare", 1))[:len(plain)]
			Live(l, b)
			left("Live")
			got, _ := Clean(l, b)
			left("Clean")
			overwrite(got)
			left("what Clean answered")
			if spare := b[:cap(b)][len(b)]; !slices.Equal(b, plain) || spare != item("spare", 1) {
				t.Fatal(b, spare)
			}
		}
	}
}

// Each segment of an answer can be appended to, and no other one changes.
func apart(t *testing.T, l [][]api.Rec) {
	t.Helper()
	before := copied(l)
	for i, s := range l {
		spare := s[:cap(s)]
		for j := len(s); j < cap(s); j++ {
			spare[j] = rec("mine", 1)
		}
		for j := range s {
			s[j] = rec("mine", 2)
		}
		if !like(l[:i], before[:i]) || !like(l[i+1:], before[i+1:]) {
			t.Fatal(i, l, before)
		}
		copy(s, before[i])
	}
}

func TestSegmentsAreApartP2(t *testing.T) {
	b := items("x", "y", long("a", 64), strings.Repeat("s", 64))
	for _, given := range append(lists(), [][]api.Rec{recs("x", "y"), recs("x"), recs("y")}) {
		for _, r := range someRecs() {
			got, _ := Put(withSpare(given), r)
			apart(t, got)
		}
		got, _ := Clean(withSpare(given), b)
		apart(t, got)
	}
}

func overlap(a, b string) bool {
	from, at := uintptr(unsafe.Pointer(unsafe.StringData(a))), uintptr(unsafe.Pointer(unsafe.StringData(b)))
	return at < from+uintptr(len(a)) && from < at+uintptr(len(b))
}

// newTexts expects that the texts share nothing with each other nor with what
// is given.
func newTexts(t *testing.T, what string, l [][]api.Rec, given string) {
	t.Helper()
	seen := []string{given}
	for _, s := range l {
		for _, r := range s {
			for _, other := range seen {
				if overlap(r.Text, other) {
					t.Errorf("%s shares %q with %q", what, r.Text, other)
				}
			}
			seen = append(seen, r.Text)
		}
	}
}

func TestTextsAreNewMemoryP2(t *testing.T) {
	all := strings.Repeat("abcdefghij", 5)
	l := [][]api.Rec{recs(all[:20], all[5:16]), recs(all[:20], all[1:41]), recs(all[2:13])}
	b := items(all[:20], all[5:16], all[2:13])
	got, e := Put(l, rec(all[3:30], 0))
	if e != api.OK {
		t.Fatal(e)
	}
	newTexts(t, "Put", got, all)
	for len(l) > 1 {
		got, e := Clean(l, b)
		if e != api.OK || len(got) == 0 {
			t.Fatal(got, e)
		}
		newTexts(t, "Clean", got, all)
		l = l[1:]
	}
}

// What one call answers stays what it is when another one is made, and the
// same call answers the same.
func TestNothingIsKeptP2(t *testing.T) {
	l, b := [][]api.Rec{recs("x", "y"), recs("x")}, items("x", "y")
	first, _ := Clean(l, b)
	again, _ := Clean(l, b)
	overwrite(again)
	n, _ := Live(l, b)
	n[0], n[1] = -1, -1
	cleans(t, l, b, first)
	lives(t, l, b, 9, 9)
	if !like(first, [][]api.Rec{recs("x", "y")}) {
		t.Error(first)
	}
}
