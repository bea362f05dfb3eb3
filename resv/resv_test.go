package resv

import (
	"math"
	"slices"
	"testing"
	"unsafe"

	"woolsack/api"
)

const lastGen = 2147483647

func like(a, b api.Resv) bool {
	return a.Gen == b.Gen && a.Kind == b.Kind && a.Holder == b.Holder && slices.Equal(a.Regs, b.Regs)
}

func isZero(r api.Resv) bool { return like(r, api.Resv{}) }

// regs makes registrations of pairs of a host and its key.
func regs(l ...int) []api.Reg {
	var all []api.Reg
	for i := 0; i < len(l); i += 2 {
		all = append(all, api.Reg{Who: l[i], Key: l[i+1]})
	}
	return all
}

// kinds are those of reservations; the first four have a Holder.
func kinds() []int { return []int{1, 3, 5, 6, 7, 8} }

// model has the key of each host, 0 for those that are not registered.
type model struct {
	gen          int
	key          [8]int
	kind, holder int
}

func read(r api.Resv) model {
	m := model{gen: r.Gen, kind: r.Kind, holder: r.Holder}
	for _, x := range r.Regs {
		m.key[x.Who] = x.Key
	}
	return m
}

func (m model) resv() api.Resv {
	r := api.Resv{Gen: m.gen, Kind: m.kind, Holder: m.holder}
	for w, key := range m.key {
		if key != 0 {
			r.Regs = append(r.Regs, api.Reg{Who: w, Key: key})
		}
	}
	return r
}

// holders lists who holds the reservation.
func (m model) holders() []int {
	var l []int
	for w, key := range m.key {
		if key != 0 && (m.kind >= 7 || m.kind > 0 && w == m.holder) {
			l = append(l, w)
		}
	}
	return l
}

func (m *model) leave(w int) {
	held := m.holders()
	m.key[w] = 0
	if slices.Contains(held, w) && (m.kind < 7 || len(held) == 1) {
		m.kind, m.holder = 0, 0
	}
}

func (m *model) take(w, k int) {
	m.kind, m.holder = k, w
	if k >= 7 {
		m.holder = 0
	}
}

// wrong is an error and whether it applies.
type wrong struct {
	is   bool
	what api.Errno
}

func first(l ...wrong) api.Errno {
	for _, x := range l {
		if x.is {
			return x.what
		}
	}
	return 0
}

func outside(x, least, most int) bool { return x < least || most < x }

func slowRegister(r api.Resv, w, old, key int) (api.Resv, api.Errno) {
	if outside(w, 0, 7) {
		return api.Resv{}, api.ErrArg
	}
	m := read(r)
	if e := first(wrong{outside(key, 0, 1000), api.ErrArg}, wrong{m.key[w] != old, api.ErrHeld}, wrong{m.gen == lastGen, api.ErrFull}); e != 0 {
		return api.Resv{}, e
	}
	m.gen++
	if key == 0 {
		m.leave(w)
	} else {
		m.key[w] = key
	}
	return m.resv(), 0
}

func slowReserve(r api.Resv, w, key, k int) (api.Resv, api.Errno) {
	if outside(w, 0, 7) {
		return api.Resv{}, api.ErrArg
	}
	m := read(r)
	held := m.kind != 0 && (!slices.Contains(m.holders(), w) || m.kind != k)
	if e := first(wrong{key == 0 || m.key[w] != key, api.ErrHeld}, wrong{!slices.Contains(kinds(), k), api.ErrArg}, wrong{held, api.ErrHeld}); e != 0 {
		return api.Resv{}, e
	}
	m.take(w, k)
	return m.resv(), 0
}

func slowRelease(r api.Resv, w, key, k int) (api.Resv, api.Errno) {
	if outside(w, 0, 7) {
		return api.Resv{}, api.ErrArg
	}
	m := read(r)
	held := slices.Contains(m.holders(), w)
	if e := first(wrong{key == 0 || m.key[w] != key, api.ErrHeld}, wrong{!slices.Contains(kinds(), k), api.ErrArg}, wrong{held && m.kind != k, api.ErrForm}); e != 0 {
		return api.Resv{}, e
	}
	if held {
		m.kind, m.holder = 0, 0
	}
	return m.resv(), 0
}

func slowClear(r api.Resv, w, key int) (api.Resv, api.Errno) {
	if outside(w, 0, 7) {
		return api.Resv{}, api.ErrArg
	}
	m := read(r)
	if e := first(wrong{key == 0 || m.key[w] != key, api.ErrHeld}, wrong{m.gen == lastGen, api.ErrFull}); e != 0 {
		return api.Resv{}, e
	}
	return model{gen: m.gen + 1}.resv(), 0
}

func slowPreempt(r api.Resv, w, key, other, k int) (api.Resv, api.Errno) {
	if outside(w, 0, 7) {
		return api.Resv{}, api.ErrArg
	}
	m := read(r)
	e := first(wrong{key == 0 || m.key[w] != key, api.ErrHeld}, wrong{!slices.Contains(kinds(), k), api.ErrArg}, wrong{outside(other, 1, 1000), api.ErrArg},
		wrong{!slices.Contains(m.key[:], other), api.ErrNone}, wrong{m.gen == lastGen, api.ErrFull})
	if e != 0 {
		return api.Resv{}, e
	}
	m.gen++
	replaced := outside(m.kind, 7, 8) && m.kind != 0 && m.key[m.holder] == other
	for host, key := range m.key {
		if key == other && host != w {
			m.leave(host)
		}
	}
	if replaced {
		m.take(w, k)
	}
	return m.resv(), 0
}

// lists has registrations of some hosts, with keys that two may share.
func lists() [][]api.Reg {
	var all [][]api.Reg
	keys := []int{0, 5, 1000}
	for i := range 27 {
		var m model
		m.key[0], m.key[3], m.key[7] = keys[i%3], keys[i/3%3], keys[i/9]
		all = append(all, m.resv().Regs)
	}
	return append(all, regs(0, 1, 1, 2, 2, 3, 3, 1, 4, 2, 5, 3, 6, 1, 7, 2))
}

// valid has each reservation that the lists of registrations can have.
func valid() []api.Resv {
	var all []api.Resv
	for _, l := range lists() {
		all = append(all, api.Resv{Regs: l})
		for _, k := range kinds() {
			if k >= 7 && len(l) > 0 {
				all = append(all, api.Resv{Regs: l, Kind: k})
			}
			for _, x := range l {
				if k < 7 {
					all = append(all, api.Resv{Regs: l, Kind: k, Holder: x.Who})
				}
			}
		}
	}
	return all
}

func hosts() []int { return []int{math.MinInt, -1, 0, 1, 3, 7, 8, math.MaxInt} }

func someKeys() []int { return []int{math.MinInt, -1, 0, 1, 2, 5, 6, 1000, 1001, math.MaxInt} }

func someKinds() []int { return []int{math.MinInt, -1, 0, 1, 2, 3, 4, 5, 6, 7, 8, 9, math.MaxInt} }

// each calls f with hosts, and with numbers that may be keys or kinds.
func each(f func(w, a, b int)) {
	for _, w := range hosts() {
		for _, a := range someKeys() {
			for _, b := range append(someKeys(), 3, 7, 8) {
				f(w, a, b)
			}
		}
	}
}

func TestCheckTakesP56(t *testing.T) {
	for _, r := range valid() {
		for _, gen := range []int{0, 1, lastGen - 1, lastGen} {
			r.Gen = gen
			if e := Check(r); e != api.OK {
				t.Error(r, e)
			}
		}
	}
	for key := 1; key <= 1000; key++ {
		for w := range 8 {
			if e := Check(api.Resv{Regs: regs(w, key), Kind: 3, Holder: w}); e != api.OK {
				t.Error(w, key, e)
			}
		}
	}
}

// badResvs lists such as are wrong, and how.
func badResvs() []struct {
	r    api.Resv
	want api.Errno
} {
	two := regs(1, 5, 4, 1000)
	both := append(two, api.Reg{Who: 2, Key: 0})
	return []struct {
		r    api.Resv
		want api.Errno
	}{
		{api.Resv{Gen: -1}, api.ErrArg},
		{api.Resv{Gen: lastGen + 1}, api.ErrArg},
		{api.Resv{Gen: math.MinInt, Regs: two}, api.ErrArg},
		{api.Resv{Gen: math.MaxInt, Regs: two, Kind: 3, Holder: 1}, api.ErrArg},
		{api.Resv{Regs: regs(-1, 5)}, api.ErrArg},
		{api.Resv{Regs: regs(8, 5)}, api.ErrArg},
		{api.Resv{Regs: regs(math.MinInt, 5)}, api.ErrArg},
		{api.Resv{Regs: regs(math.MaxInt, 5)}, api.ErrArg},
		{api.Resv{Regs: regs(0, 0)}, api.ErrArg},
		{api.Resv{Regs: regs(0, -5)}, api.ErrArg},
		{api.Resv{Regs: regs(7, 1001)}, api.ErrArg},
		{api.Resv{Regs: regs(7, math.MaxInt)}, api.ErrArg},
		{api.Resv{Regs: regs(1, 5, 4, 0)}, api.ErrArg},
		{api.Resv{Regs: regs(1, 5, 8, 5)}, api.ErrArg},
		{api.Resv{Regs: regs(1, 5, 1, 6)}, api.ErrForm},
		{api.Resv{Regs: regs(1, 5, 1, 5)}, api.ErrForm},
		{api.Resv{Regs: regs(4, 5, 1, 6)}, api.ErrForm},
		{api.Resv{Regs: regs(1, 5, 4, 6, 3, 7)}, api.ErrForm},
		{api.Resv{Regs: regs(0, 5, 7, 6, 0, 7)}, api.ErrForm},
		// The first registration with an error decides, and of one ErrArg.
		{api.Resv{Regs: both}, api.ErrArg},
		{api.Resv{Regs: regs(4, 5, -1, 5)}, api.ErrArg},
		{api.Resv{Regs: regs(4, 5, 1, 1001)}, api.ErrArg},
		{api.Resv{Regs: regs(4, 5, 1, 5, 8, 5)}, api.ErrForm},
		{api.Resv{Regs: regs(4, 5, 8, 5, 1, 5)}, api.ErrArg},
		{api.Resv{Holder: 1}, api.ErrForm},
		{api.Resv{Holder: -1}, api.ErrForm},
		{api.Resv{Regs: two, Holder: 1}, api.ErrForm},
		{api.Resv{Kind: 7}, api.ErrForm},
		{api.Resv{Kind: 8}, api.ErrForm},
		{api.Resv{Kind: 8, Holder: 2}, api.ErrForm},
		{api.Resv{Regs: two, Kind: 7, Holder: 1}, api.ErrForm},
		{api.Resv{Regs: two, Kind: 8, Holder: 4}, api.ErrForm},
		{api.Resv{Regs: two, Kind: 8, Holder: math.MinInt}, api.ErrForm},
		{api.Resv{Kind: 2}, api.ErrArg},
		{api.Resv{Kind: 4}, api.ErrArg},
		{api.Resv{Kind: 9}, api.ErrArg},
		{api.Resv{Kind: -1}, api.ErrArg},
		{api.Resv{Kind: math.MinInt}, api.ErrArg},
		{api.Resv{Regs: two, Kind: math.MaxInt, Holder: 1}, api.ErrArg},
		// A kind that is none is that, whoever is the Holder.
		{api.Resv{Regs: two, Kind: 2, Holder: 9}, api.ErrArg},
		{api.Resv{Regs: two, Kind: 4, Holder: 1}, api.ErrArg},
		{api.Resv{Kind: 1}, api.ErrForm},
		{api.Resv{Kind: 3, Holder: 1}, api.ErrForm},
		{api.Resv{Regs: two, Kind: 1}, api.ErrForm},
		{api.Resv{Regs: two, Kind: 3, Holder: 2}, api.ErrForm},
		{api.Resv{Regs: two, Kind: 5, Holder: -1}, api.ErrForm},
		{api.Resv{Regs: two, Kind: 6, Holder: 8}, api.ErrForm},
		{api.Resv{Regs: two, Kind: 6, Holder: 1000}, api.ErrForm},
		// Gen comes first, then the registrations.
		{api.Resv{Gen: -1, Regs: regs(4, 5, 1, 5)}, api.ErrArg},
		{api.Resv{Gen: lastGen + 1, Kind: 8}, api.ErrArg},
		{api.Resv{Gen: -1, Holder: 1}, api.ErrArg},
		{api.Resv{Regs: regs(4, 5, 1, 5), Kind: 2}, api.ErrForm},
		{api.Resv{Regs: regs(0, 1001), Holder: 1}, api.ErrArg},
		{api.Resv{Regs: regs(0, 0), Kind: 3, Holder: 1}, api.ErrArg},
		{api.Resv{Regs: regs(8, 1), Kind: 7, Holder: 1}, api.ErrArg},
	}
}

// fails expects that all functions tell the same of r, whatever comes with it.
func fails(t *testing.T, r api.Resv, want api.Errno) {
	t.Helper()
	if e := Check(r); e != want {
		t.Errorf("Check %v: %d, want %d", r, e, want)
	}
	for _, w := range hosts() {
		for _, key := range someKeys() {
			hostFails(t, r, w, key, want)
		}
	}
}

// hostFails expects that the functions with a host tell the same.
func hostFails(t *testing.T, r api.Resv, w, key int, want api.Errno) {
	t.Helper()
	for _, k := range []int{0, 1, 2, 8} {
		got, e := Register(r, w, key, k)
		failed(t, "Register", got, e, want)
		got, e = Register(r, w, k, key)
		failed(t, "Register", got, e, want)
		got, e = Reserve(r, w, key, k)
		failed(t, "Reserve", got, e, want)
		got, e = Release(r, w, key, k)
		failed(t, "Release", got, e, want)
		for _, other := range []int{0, 5, 9} {
			got, e = Preempt(r, w, key, other, k)
			failed(t, "Preempt", got, e, want)
		}
	}
	got, e := Clear(r, w, key)
	failed(t, "Clear", got, e, want)
	for _, writes := range []bool{false, true} {
		if may, e := May(r, w, writes); may || e != want {
			t.Errorf("May %v %d: %v %d, want %d", r, w, may, e, want)
		}
	}
}

func failed(t *testing.T, what string, got api.Resv, e, want api.Errno) {
	t.Helper()
	if !isZero(got) || e != want {
		t.Errorf("%s: %v %d, want %d", what, got, e, want)
	}
}

func TestCheckErrorsP56(t *testing.T) {
	for _, c := range badResvs() {
		fails(t, c.r, c.want)
	}
	fails(t, api.Resv{Regs: make([]api.Reg, 1<<16)}, api.ErrArg)
	fails(t, api.Resv{Regs: slices.Repeat(regs(3, 7), 1<<16)}, api.ErrForm)
}

func TestHostErrorsP56(t *testing.T) {
	for _, r := range append(valid(), api.Resv{Gen: lastGen}, api.Resv{Gen: lastGen, Regs: regs(0, 5)}) {
		for _, w := range []int{-1, 8, 9, -8, math.MinInt, math.MaxInt} {
			hostFails(t, r, w, 5, api.ErrArg)
			hostFails(t, r, w, 0, api.ErrArg)
			hostFails(t, r, w, -1, api.ErrArg)
		}
	}
}

// same expects an answer and its error.
func same(t *testing.T, what any, got api.Resv, e api.Errno, want api.Resv, f api.Errno) {
	t.Helper()
	if !like(got, want) || e != f {
		t.Errorf("%v: %v %d, want %v %d", what, got, e, want, f)
	}
	if f == api.OK && Check(got) != api.OK {
		t.Errorf("%v: %v is not valid: %d", what, got, Check(got))
	}
}

func TestRegisterP57(t *testing.T) {
	two := regs(1, 5, 4, 6)
	for _, c := range []struct {
		r           api.Resv
		w, old, key int
		want        api.Resv
	}{
		{api.Resv{}, 0, 0, 1, api.Resv{Gen: 1, Regs: regs(0, 1)}},
		{api.Resv{}, 7, 0, 1000, api.Resv{Gen: 1, Regs: regs(7, 1000)}},
		{api.Resv{Gen: lastGen - 1}, 3, 0, 5, api.Resv{Gen: lastGen, Regs: regs(3, 5)}},
		// The list stays in the order of hosts.
		{api.Resv{Regs: two}, 0, 0, 5, api.Resv{Gen: 1, Regs: regs(0, 5, 1, 5, 4, 6)}},
		{api.Resv{Regs: two}, 2, 0, 5, api.Resv{Gen: 1, Regs: regs(1, 5, 2, 5, 4, 6)}},
		{api.Resv{Regs: two}, 7, 0, 5, api.Resv{Gen: 1, Regs: regs(1, 5, 4, 6, 7, 5)}},
		{api.Resv{Regs: two}, 1, 5, 7, api.Resv{Gen: 1, Regs: regs(1, 7, 4, 6)}},
		{api.Resv{Regs: two}, 4, 6, 5, api.Resv{Gen: 1, Regs: regs(1, 5, 4, 5)}},
		// The key it has already is set too.
		{api.Resv{Regs: two}, 4, 6, 6, api.Resv{Gen: 1, Regs: two}},
		{api.Resv{Regs: two}, 1, 5, 0, api.Resv{Gen: 1, Regs: regs(4, 6)}},
		{api.Resv{Regs: two}, 4, 6, 0, api.Resv{Gen: 1, Regs: regs(1, 5)}},
		{api.Resv{Regs: regs(4, 6)}, 4, 6, 0, api.Resv{Gen: 1}},
		// Nor does it matter that there is nothing to remove.
		{api.Resv{}, 3, 0, 0, api.Resv{Gen: 1}},
		{api.Resv{Gen: 9, Regs: two, Kind: 3, Holder: 1}, 3, 0, 0, api.Resv{Gen: 10, Regs: two, Kind: 3, Holder: 1}},
		{api.Resv{Regs: two, Kind: 7}, 0, 0, 0, api.Resv{Gen: 1, Regs: two, Kind: 7}},
		// A new key leaves the reservation as it is.
		{api.Resv{Regs: two, Kind: 3, Holder: 1}, 1, 5, 9, api.Resv{Gen: 1, Regs: regs(1, 9, 4, 6), Kind: 3, Holder: 1}},
		{api.Resv{Regs: two, Kind: 3, Holder: 1}, 4, 6, 0, api.Resv{Gen: 1, Regs: regs(1, 5), Kind: 3, Holder: 1}},
		{api.Resv{Regs: regs(4, 6), Kind: 8}, 4, 6, 7, api.Resv{Gen: 1, Regs: regs(4, 7), Kind: 8}},
		{api.Resv{Regs: two, Kind: 7}, 1, 5, 0, api.Resv{Gen: 1, Regs: regs(4, 6), Kind: 7}},
		{api.Resv{Regs: two, Kind: 8}, 4, 6, 0, api.Resv{Gen: 1, Regs: regs(1, 5), Kind: 8}},
		{api.Resv{Regs: regs(4, 6), Kind: 7}, 4, 6, 0, api.Resv{Gen: 1}},
		{api.Resv{Regs: regs(0, 6), Kind: 8}, 0, 6, 0, api.Resv{Gen: 1}},
		{api.Resv{Regs: regs(4, 6), Kind: 8}, 0, 0, 9, api.Resv{Gen: 1, Regs: regs(0, 9, 4, 6), Kind: 8}},
	} {
		got, e := Register(c.r, c.w, c.old, c.key)
		same(t, c, got, e, c.want, api.OK)
	}
	for _, k := range []int{1, 3, 5, 6} {
		got, e := Register(api.Resv{Gen: 4, Regs: two, Kind: k, Holder: 4}, 4, 6, 0)
		same(t, k, got, e, api.Resv{Gen: 5, Regs: regs(1, 5)}, api.OK)
	}
}

func TestRegisterErrorsP57(t *testing.T) {
	two := api.Resv{Regs: regs(1, 5, 4, 6)}
	full := api.Resv{Gen: lastGen, Regs: two.Regs}
	for _, c := range []struct {
		r           api.Resv
		w, old, key int
		want        api.Errno
	}{
		{two, 1, 5, -1, api.ErrArg}, {two, 1, 5, 1001, api.ErrArg}, {two, 2, 0, math.MaxInt, api.ErrArg}, {two, 2, 0, math.MinInt, api.ErrArg},
		{two, 1, 6, -1, api.ErrArg}, {full, 2, 3, 1001, api.ErrArg},
		{two, 1, 6, 7, api.ErrHeld}, {two, 1, 0, 7, api.ErrHeld}, {two, 1, 4, 5, api.ErrHeld}, {two, 1, 6, 0, api.ErrHeld}, {two, 1, 0, 0, api.ErrHeld}, {two, 1, -5, 0, api.ErrHeld},
		{two, 2, 5, 7, api.ErrHeld}, {two, 2, 1, 0, api.ErrHeld}, {two, 2, -1, 7, api.ErrHeld}, {two, 0, 1001, 7, api.ErrHeld},
		{full, 1, 6, 7, api.ErrHeld}, {full, 2, 5, 7, api.ErrHeld},
		{full, 1, 5, 7, api.ErrFull}, {full, 1, 5, 0, api.ErrFull}, {full, 2, 0, 7, api.ErrFull}, {full, 2, 0, 0, api.ErrFull},
	} {
		got, e := Register(c.r, c.w, c.old, c.key)
		same(t, c, got, e, api.Resv{}, c.want)
	}
}

func TestReserveP58(t *testing.T) {
	two := regs(1, 5, 4, 6)
	for _, k := range kinds() {
		for _, gen := range []int{0, 7, lastGen} {
			holder := 4
			if k >= 7 {
				holder = 0
			}
			want := api.Resv{Gen: gen, Regs: two, Kind: k, Holder: holder}
			got, e := Reserve(api.Resv{Gen: gen, Regs: two}, 4, 6, k)
			same(t, k, got, e, want, api.OK)
			// Once more is as once.
			got, e = Reserve(got, 4, 6, k)
			same(t, k, got, e, want, api.OK)
			other, e := Reserve(got, 1, 5, k)
			if k >= 7 {
				same(t, k, other, e, want, api.OK)
			} else {
				same(t, k, other, e, api.Resv{}, api.ErrHeld)
			}
			for _, other := range kinds() {
				if other != k {
					got, e := Reserve(got, 4, 6, other)
					same(t, k, got, e, api.Resv{}, api.ErrHeld)
				}
			}
		}
	}
	got, e := Reserve(api.Resv{Regs: regs(0, 1)}, 0, 1, 3)
	same(t, 0, got, e, api.Resv{Regs: regs(0, 1), Kind: 3}, api.OK)
}

// Who has reserved All is the only one that may read and write.
func TestReserveAllP58P62(t *testing.T) {
	r, e := Reserve(api.Resv{Regs: regs(1, 5, 4, 6)}, 4, 6, api.All)
	if e != api.OK {
		t.Fatal(e)
	}
	for w := range 8 {
		may(t, r, w, w == 4, w == 4)
	}
}

// Whose key is not its own may neither reserve nor release, clear or preempt.
func TestKeyErrorsP58P59P60P61(t *testing.T) {
	for _, kind := range append(kinds(), 0) {
		r := api.Resv{Gen: lastGen, Regs: regs(1, 5, 4, 6), Kind: kind}
		if kind > 0 && kind < 7 {
			r.Holder = 1
		}
		for _, c := range [][2]int{{1, 6}, {1, 4}, {1, 0}, {1, -5}, {1, 1001}, {4, 5}, {4, 0}, {0, 0}, {0, 5}, {2, 0}, {2, 5}, {7, 0}, {7, -1}, {7, math.MaxInt}} {
			for _, k := range someKinds() {
				got, e := Reserve(r, c[0], c[1], k)
				same(t, c, got, e, api.Resv{}, api.ErrHeld)
				got, e = Release(r, c[0], c[1], k)
				same(t, c, got, e, api.Resv{}, api.ErrHeld)
				for _, other := range someKeys() {
					got, e = Preempt(r, c[0], c[1], other, k)
					same(t, c, got, e, api.Resv{}, api.ErrHeld)
				}
			}
			got, e := Clear(r, c[0], c[1])
			same(t, c, got, e, api.Resv{}, api.ErrHeld)
		}
	}
}

// What is no kind is told ahead of who holds the reservation, or of what kind
// it is.
func TestKindErrorsP58P59P61(t *testing.T) {
	for _, r := range valid() {
		r.Gen = lastGen
		for _, x := range r.Regs {
			for _, k := range []int{math.MinInt, -3, -1, 0, 2, 4, 9, 10, math.MaxInt} {
				got, e := Reserve(r, x.Who, x.Key, k)
				same(t, k, got, e, api.Resv{}, api.ErrArg)
				got, e = Release(r, x.Who, x.Key, k)
				same(t, k, got, e, api.Resv{}, api.ErrArg)
				for _, other := range []int{5, 77, 0} {
					got, e = Preempt(r, x.Who, x.Key, other, k)
					same(t, k, got, e, api.Resv{}, api.ErrArg)
				}
			}
		}
	}
}

func TestReleaseP59(t *testing.T) {
	two := regs(1, 5, 4, 6)
	for _, gen := range []int{0, 7, lastGen} {
		for _, k := range kinds() {
			free := api.Resv{Gen: gen, Regs: two}
			got, e := Release(free, 1, 5, k)
			same(t, k, got, e, free, api.OK)
			held := api.Resv{Gen: gen, Regs: two, Kind: k, Holder: 1}
			if k >= 7 {
				held.Holder = 0
			}
			got, e = Release(held, 1, 5, k)
			same(t, k, got, e, free, api.OK)
			for _, other := range kinds() {
				got, e := Release(held, 4, 6, other)
				if k < 7 {
					same(t, k, got, e, held, api.OK)
				} else if other == k {
					same(t, k, got, e, free, api.OK)
				} else {
					same(t, k, got, e, api.Resv{}, api.ErrForm)
				}
				if other != k {
					got, e := Release(held, 1, 5, other)
					same(t, k, got, e, api.Resv{}, api.ErrForm)
				}
			}
		}
	}
}

func TestClearP60(t *testing.T) {
	for _, r := range valid() {
		for _, gen := range []int{0, 7, lastGen - 1} {
			r.Gen = gen
			for _, x := range r.Regs {
				got, e := Clear(r, x.Who, x.Key)
				same(t, r, got, e, api.Resv{Gen: gen + 1}, api.OK)
			}
		}
		r.Gen = lastGen
		for _, x := range r.Regs {
			got, e := Clear(r, x.Who, x.Key)
			same(t, r, got, e, api.Resv{}, api.ErrFull)
		}
	}
}

func TestPreemptP61(t *testing.T) {
	l := regs(0, 9, 1, 5, 2, 6, 4, 6, 7, 5)
	for _, c := range []struct {
		kind, holder     int
		w, key, other, k int
		want             api.Resv
	}{
		// Without a reservation there comes none.
		{0, 0, 1, 5, 6, 3, api.Resv{Gen: 1, Regs: regs(0, 9, 1, 5, 7, 5)}},
		{0, 0, 1, 5, 9, 7, api.Resv{Gen: 1, Regs: regs(1, 5, 2, 6, 4, 6, 7, 5)}},
		// The host itself stays.
		{0, 0, 1, 5, 5, 3, api.Resv{Gen: 1, Regs: regs(0, 9, 1, 5, 2, 6, 4, 6)}},
		{0, 0, 7, 5, 5, 8, api.Resv{Gen: 1, Regs: regs(0, 9, 2, 6, 4, 6, 7, 5)}},
		{0, 0, 0, 9, 9, 8, api.Resv{Gen: 1, Regs: l}},
		// One that is preempted was the Holder.
		{3, 4, 1, 5, 6, 3, api.Resv{Gen: 1, Regs: regs(0, 9, 1, 5, 7, 5), Kind: 3, Holder: 1}},
		{3, 2, 1, 5, 6, 1, api.Resv{Gen: 1, Regs: regs(0, 9, 1, 5, 7, 5), Kind: 1, Holder: 1}},
		{1, 0, 7, 5, 9, 6, api.Resv{Gen: 1, Regs: regs(1, 5, 2, 6, 4, 6, 7, 5), Kind: 6, Holder: 7}},
		{5, 4, 0, 9, 6, 5, api.Resv{Gen: 1, Regs: regs(0, 9, 1, 5, 7, 5), Kind: 5}},
		{6, 4, 1, 5, 6, 7, api.Resv{Gen: 1, Regs: regs(0, 9, 1, 5, 7, 5), Kind: 7}},
		{6, 7, 1, 5, 5, 8, api.Resv{Gen: 1, Regs: regs(0, 9, 1, 5, 2, 6, 4, 6), Kind: 8}},
		// The host itself was, and its key is the one that is preempted.
		{3, 1, 1, 5, 5, 6, api.Resv{Gen: 1, Regs: regs(0, 9, 1, 5, 2, 6, 4, 6), Kind: 6, Holder: 1}},
		{1, 0, 0, 9, 9, 8, api.Resv{Gen: 1, Regs: l, Kind: 8}},
		{5, 0, 0, 9, 9, 3, api.Resv{Gen: 1, Regs: l, Kind: 3}},
		// The Holder has another key.
		{3, 1, 1, 5, 6, 6, api.Resv{Gen: 1, Regs: regs(0, 9, 1, 5, 7, 5), Kind: 3, Holder: 1}},
		{1, 0, 1, 5, 6, 7, api.Resv{Gen: 1, Regs: regs(0, 9, 1, 5, 7, 5), Kind: 1}},
		{6, 2, 1, 5, 5, 3, api.Resv{Gen: 1, Regs: regs(0, 9, 1, 5, 2, 6, 4, 6), Kind: 6, Holder: 2}},
		// What all hold is not replaced.
		{7, 0, 1, 5, 6, 3, api.Resv{Gen: 1, Regs: regs(0, 9, 1, 5, 7, 5), Kind: 7}},
		{8, 0, 1, 5, 9, 1, api.Resv{Gen: 1, Regs: regs(1, 5, 2, 6, 4, 6, 7, 5), Kind: 8}},
		{8, 0, 0, 9, 9, 7, api.Resv{Gen: 1, Regs: l, Kind: 8}},
		{7, 0, 1, 5, 5, 8, api.Resv{Gen: 1, Regs: regs(0, 9, 1, 5, 2, 6, 4, 6), Kind: 7}},
	} {
		got, e := Preempt(api.Resv{Regs: l, Kind: c.kind, Holder: c.holder}, c.w, c.key, c.other, c.k)
		same(t, c, got, e, c.want, api.OK)
	}
	// All others are gone, and what all hold is still held.
	for _, k := range []int{7, 8} {
		got, e := Preempt(api.Resv{Gen: lastGen - 1, Regs: regs(1, 5, 2, 6, 3, 6), Kind: k}, 1, 5, 6, 3)
		same(t, k, got, e, api.Resv{Gen: lastGen, Regs: regs(1, 5), Kind: k}, api.OK)
	}
}

func TestPreemptErrorsP61(t *testing.T) {
	l := regs(1, 5, 4, 6)
	for _, r := range []api.Resv{{Regs: l}, {Regs: l, Kind: 3, Holder: 4}, {Regs: l, Kind: 8}, {Gen: lastGen, Regs: l}, {Gen: lastGen, Regs: l, Kind: 1, Holder: 1}} {
		for _, k := range kinds() {
			for _, other := range []int{math.MinInt, -5, 0, 1001, math.MaxInt} {
				got, e := Preempt(r, 1, 5, other, k)
				same(t, other, got, e, api.Resv{}, api.ErrArg)
			}
			for _, other := range []int{1, 4, 7, 999, 1000} {
				got, e := Preempt(r, 1, 5, other, k)
				same(t, other, got, e, api.Resv{}, api.ErrNone)
			}
			for _, other := range []int{5, 6} {
				if r.Gen == lastGen {
					got, e := Preempt(r, 1, 5, other, k)
					same(t, other, got, e, api.Resv{}, api.ErrFull)
				}
			}
		}
	}
}

// Every small list with every reservation and any arguments.
func TestAllOfThemP57P58P59P60P61(t *testing.T) {
	for _, r := range valid() {
		for _, gen := range []int{6, lastGen} {
			r.Gen = gen
			each(func(w, a, b int) {
				got, e := Register(r, w, a, b)
				want, f := slowRegister(r, w, a, b)
				same(t, "Register", got, e, want, f)
				got, e = Reserve(r, w, a, b)
				want, f = slowReserve(r, w, a, b)
				same(t, "Reserve", got, e, want, f)
				got, e = Release(r, w, a, b)
				want, f = slowRelease(r, w, a, b)
				same(t, "Release", got, e, want, f)
				got, e = Clear(r, w, a)
				want, f = slowClear(r, w, a)
				same(t, "Clear", got, e, want, f)
				for _, other := range []int{0, 1, 5, 77, 1000, 1001} {
					got, e = Preempt(r, w, a, other, b)
					want, f = slowPreempt(r, w, a, other, b)
					same(t, "Preempt", got, e, want, f)
				}
				// A fault shows in so many of them that one is enough.
				if t.Failed() {
					t.FailNow()
				}
			})
		}
	}
}

func may(t *testing.T, r api.Resv, w int, reads, writes bool) {
	t.Helper()
	got, e := May(r, w, false)
	if got != reads || e != api.OK {
		t.Errorf("%v: %d reads %v %d", r, w, got, e)
	}
	got, e = May(r, w, true)
	if got != writes || e != api.OK {
		t.Errorf("%v: %d writes %v %d", r, w, got, e)
	}
}

func TestMayP62(t *testing.T) {
	l := regs(0, 9, 1, 5, 4, 5)
	for w := range 8 {
		is := w == 0 || w == 1 || w == 4
		for _, gen := range []int{0, lastGen} {
			may(t, api.Resv{Gen: gen}, w, true, true)
			may(t, api.Resv{Gen: gen, Regs: l}, w, true, true)
			for _, holder := range []int{0, 1, 4} {
				may(t, api.Resv{Gen: gen, Regs: l, Kind: 1, Holder: holder}, w, true, w == holder)
				may(t, api.Resv{Gen: gen, Regs: l, Kind: 3, Holder: holder}, w, w == holder, w == holder)
				may(t, api.Resv{Gen: gen, Regs: l, Kind: 5, Holder: holder}, w, true, is)
				may(t, api.Resv{Gen: gen, Regs: l, Kind: 6, Holder: holder}, w, is, is)
			}
			may(t, api.Resv{Gen: gen, Regs: l, Kind: 7}, w, true, is)
			may(t, api.Resv{Gen: gen, Regs: l, Kind: 8}, w, is, is)
		}
	}
}

// chances makes numbers that look like chance.
func chances(x uint32) func(n int) int {
	return func(n int) int {
		x = x*1664525 + 1013904223
		return int(x>>8) % n
	}
}

// Hosts come and go, and take and leave reservations.
func TestHostsOverTimeP56P57P58P59P60P61(t *testing.T) {
	chance := chances(56)
	var r api.Resv
	count := [7]int{}
	for range 200000 {
		w, key, k := chance(8), 1+chance(3), kinds()[chance(6)]
		own := read(r).key[w]
		var got, want api.Resv
		var e, f api.Errno
		what := chance(40)
		switch {
		case what < 4:
			next := chance(4)
			got, e = Register(r, w, own, next)
			want, f = slowRegister(r, w, own, next)
		case what < 9:
			got, e = Reserve(r, w, own, k)
			want, f = slowReserve(r, w, own, k)
		case what < 10:
			got, e = Release(r, w, own, k)
			want, f = slowRelease(r, w, own, k)
		case what < 11 && chance(4) == 0:
			got, e = Clear(r, w, own)
			want, f = slowClear(r, w, own)
		case what < 13:
			got, e = Preempt(r, w, own, key, k)
			want, f = slowPreempt(r, w, own, key, k)
		default:
			got, e = Register(r, w, 0, key)
			want, f = slowRegister(r, w, 0, key)
		}
		if e != f || !like(got, want) {
			t.Fatal(what, r, got, e, want, f)
		}
		if e == api.OK {
			r = got
			count[slices.Index([]int{0, 1, 3, 5, 6, 7, 8}, r.Kind)]++
		}
		if e := Check(r); e != api.OK {
			t.Fatal(r, e)
		}
	}
	if slices.Min(count[:]) < 100 {
		t.Error("too few of a kind", count)
	}
}

func TestNothingPanicsP1(t *testing.T) {
	chance := chances(1)
	odd := []int{math.MinInt, -1, 0, 1, 2, 3, 4, 5, 6, 7, 8, 9, 1000, 1001, lastGen, lastGen + 1, math.MaxInt}
	pick := func() int { return odd[chance(len(odd))] }
	for range 100000 {
		r := api.Resv{Gen: pick(), Kind: pick(), Holder: pick()}
		if chance(2) == 0 {
			r = api.Resv{Kind: chance(9), Holder: chance(3)}
		}
		for i := range chance(4) {
			x := api.Reg{Who: i + chance(2), Key: 5}
			if chance(9) == 0 {
				x = api.Reg{Who: pick(), Key: pick()}
			}
			r.Regs = append(r.Regs, x)
		}
		w, key, other, k := pick(), pick(), pick(), pick()
		bad := Check(r)
		expect := func(got api.Resv, e api.Errno) {
			if e != api.OK && !isZero(got) || bad != api.OK && e != bad || e == api.OK && Check(got) != api.OK {
				t.Fatal(r, w, key, other, k, got, e)
			}
		}
		expect(Register(r, w, key, other))
		expect(Reserve(r, w, key, k))
		expect(Release(r, w, key, k))
		expect(Clear(r, w, key))
		expect(Preempt(r, w, key, other, k))
		if got, e := May(r, w, chance(2) == 0); e != api.OK && got || bad != api.OK && e != bad {
			t.Fatal(r, w, got, e)
		}
	}
}

// withSpare lays something behind the end of the registrations.
func withSpare(r api.Resv) api.Resv {
	r.Regs = append(slices.Clone(r.Regs), regs(6, 66, 7, 77)...)[:len(r.Regs)]
	return r
}

// answers calls all functions with what they take.
func answers(r api.Resv) []api.Resv {
	var all []api.Resv
	Check(r)
	for w := range 8 {
		key := read(r).key[w]
		May(r, w, true)
		May(r, w, false)
		for _, next := range []int{0, 5, 8} {
			got, _ := Register(r, w, key, next)
			all = append(all, got)
		}
		for _, k := range kinds() {
			reserved, _ := Reserve(r, w, key, k)
			released, _ := Release(r, w, key, k)
			mine, _ := Preempt(r, w, key, key, k)
			others, _ := Preempt(r, w, key, 1005-key, k)
			all = append(all, reserved, released, mine, others)
		}
		got, _ := Clear(r, w, key)
		all = append(all, got)
	}
	return all
}

func overlap(a, b []api.Reg) bool {
	size := unsafe.Sizeof(api.Reg{})
	from, at := uintptr(unsafe.Pointer(unsafe.SliceData(a))), uintptr(unsafe.Pointer(unsafe.SliceData(b)))
	return at < from+uintptr(cap(a))*size && from < at+uintptr(cap(b))*size
}

func TestArgumentsStayP2(t *testing.T) {
	for _, r := range valid() {
		given := withSpare(r)
		for _, got := range answers(given) {
			if cap(got.Regs) > 0 && overlap(got.Regs, given.Regs) {
				t.Fatal("shared", r, got)
			}
			for i := range got.Regs[:cap(got.Regs)] {
				got.Regs[:cap(got.Regs)][i] = api.Reg{Who: -1, Key: -1}
			}
		}
		n := len(r.Regs)
		if !like(given, r) || !slices.Equal(given.Regs[:n+2][n:], regs(6, 66, 7, 77)) {
			t.Fatal(given, r)
		}
	}
}

func TestAnswersAreApartP2(t *testing.T) {
	for _, r := range valid() {
		all := answers(withSpare(r))
		for i, x := range all {
			for _, y := range all[:i] {
				if cap(x.Regs) > 0 && cap(y.Regs) > 0 && overlap(x.Regs, y.Regs) {
					t.Fatal(r, x, y)
				}
			}
		}
	}
}

// The same calls answer the same, whatever was called between.
func TestNothingIsKeptP2(t *testing.T) {
	var before [][]api.Resv
	for range 2 {
		for i, r := range valid() {
			got := answers(r)
			if i == len(before) {
				before = append(before, got)
			}
			if !slices.EqualFunc(got, before[i], like) {
				t.Fatal(r)
			}
		}
	}
}
