package log

import (
	"math"
	"reflect"
	"slices"
	"strings"
	"testing"
	"unsafe"

	"woolsack/api"
	"woolsack/vol"
)

// slowEncode makes the bytes of any operation, valid or not.
func slowEncode(o api.Op) string {
	b := []byte{byte(o.Kind), byte(o.At), byte(len(o.Name))}
	b = append(append(b, o.Name...), byte(len(o.To)))
	b = append(append(b, o.To...), byte(len(o.Text)))
	return string(append(b, o.Text...))
}

// slowFrame makes the frame of any kind and body; its fingerprint is divided
// bit by bit, by the modulus Great.
func slowFrame(kind int, body string) string {
	s := string([]byte{byte(kind), byte(len(body) >> 8), byte(len(body))}) + body
	p := 1
	for i := range len(s) {
		for bit := 7; bit >= 0; bit-- {
			p = p<<1 | int(s[i]>>bit)&1
			if p >= 1<<30 {
				p ^= 1073741907
			}
		}
	}
	return s + string([]byte{byte(p >> 24), byte(p >> 16), byte(p >> 8), byte(p)})
}

// slowLog makes the log of any operations, however many.
func slowLog(l ...api.Op) string {
	all := ""
	for _, o := range l {
		all += slowFrame(1, slowEncode(o))
	}
	return all
}

func slowName(s string) bool {
	return len(s) > 0 && len(s) < 13 && strings.Trim(s, "abcdefghijklmnopqrstuvwxyz0123456789") == ""
}

// slowCheck goes through what can be wrong in the document's order.
func slowCheck(o api.Op) api.Errno {
	for _, x := range []struct {
		wrong bool
		e     api.Errno
	}{
		{!slices.Contains([]int{1, 2, 3, 4, 5}, o.Kind), api.ErrArg},
		{!slowName(o.Name), api.ErrForm},
		{o.Kind == 5 && !slowName(o.To), api.ErrForm},
		{o.At < 0, api.ErrArg},
		{o.At > 32, api.ErrArg},
		{len(o.Text) > 64, api.ErrLarge},
		{o.Kind != 5 && len(o.To) > 0, api.ErrForm},
		{o.Kind != 3 && len(o.Text) > 0, api.ErrForm},
		{o.Kind == 2 && o.At != 0, api.ErrForm},
		{o.Kind == 5 && o.At != 0, api.ErrForm},
	} {
		if x.wrong {
			return x.e
		}
	}
	return api.OK
}

func goodNames() []string { return []string{"v", "0", "abc123", "zzzzzzzzzzzz", "000000000000"} }

func badNames() []string {
	return []string{"", "V", "a b", "é", "\x00", "a-", "zzzzzzzzzzzzz", strings.Repeat("a", 256), strings.Repeat("a", 257)}
}

func someTexts() []string {
	return []string{"", "x", "\x00", "\xff\x00", "V-", strings.Repeat("x", 63), strings.Repeat("\xff", 64),
		strings.Repeat("x", 65), strings.Repeat("x", 256), strings.Repeat("x", 320)}
}

// ops yields operations of all kinds, right and wrong in every way.
func ops(yield func(api.Op) bool) {
	names := append(goodNames(), badNames()...)
	for _, kind := range []int{1, 2, 3, 4, 5, 0, 6, 7, -1, 255, 257, 259, math.MinInt, math.MaxInt} {
		for _, at := range []int{0, 1, 31, 32, 33, -1, 256, 257, math.MinInt, math.MaxInt} {
			for _, name := range names {
				for _, to := range names {
					for _, text := range someTexts() {
						if !yield(api.Op{Kind: kind, Name: name, To: to, At: at, Text: text}) {
							return
						}
					}
				}
			}
		}
	}
}

// goodOps has every kind with what it may have, at its bounds.
func goodOps() []api.Op {
	var l []api.Op
	for _, name := range goodNames() {
		l = append(l, api.Op{Kind: 2, Name: name})
		for _, at := range []int{0, 1, 31, 32} {
			l = append(l, api.Op{Kind: 1, Name: name, At: at}, api.Op{Kind: 4, Name: name, At: at})
			for _, text := range someTexts()[:7] {
				l = append(l, api.Op{Kind: 3, Name: name, At: at, Text: text})
			}
		}
		for _, to := range goodNames() {
			l = append(l, api.Op{Kind: 5, Name: name, To: to})
		}
	}
	return l
}

func TestCheckTakesP47(t *testing.T) {
	for _, o := range goodOps() {
		if e := Check(o); e != api.OK {
			t.Errorf("%#v: %d", o, e)
		}
	}
}

func TestCheckErrorsP47(t *testing.T) {
	long := strings.Repeat("x", 65)
	for _, c := range []struct {
		o    api.Op
		want api.Errno
	}{
		{api.Op{}, api.ErrArg},
		{api.Op{Kind: 6, Name: "v"}, api.ErrArg},
		{api.Op{Kind: -1, Name: "v"}, api.ErrArg},
		{api.Op{Kind: 0, Name: "V", At: 33, Text: long}, api.ErrArg},
		{api.Op{Kind: 1}, api.ErrForm},
		{api.Op{Kind: 1, Name: "V", At: 33}, api.ErrForm},
		{api.Op{Kind: 3, Name: "thirteenbytes", Text: long}, api.ErrForm},
		{api.Op{Kind: 5, Name: "v"}, api.ErrForm},
		{api.Op{Kind: 5, Name: "v", To: "W", At: 33}, api.ErrForm},
		{api.Op{Kind: 5, Name: "v", To: "W", Text: long}, api.ErrForm},
		{api.Op{Kind: 1, Name: "v", At: 33}, api.ErrArg},
		{api.Op{Kind: 1, Name: "v", At: -1, To: "w"}, api.ErrArg},
		{api.Op{Kind: 2, Name: "v", At: 33}, api.ErrArg},
		{api.Op{Kind: 3, Name: "v", At: 33, Text: long}, api.ErrArg},
		{api.Op{Kind: 5, Name: "v", To: "w", At: -1}, api.ErrArg},
		{api.Op{Kind: 3, Name: "v", Text: long}, api.ErrLarge},
		{api.Op{Kind: 3, Name: "v", Text: long, To: "w"}, api.ErrLarge},
		{api.Op{Kind: 2, Name: "v", At: 1, Text: long}, api.ErrLarge},
		{api.Op{Kind: 1, Name: "v", At: 1, To: "w"}, api.ErrForm},
		{api.Op{Kind: 2, Name: "v", To: "w"}, api.ErrForm},
		{api.Op{Kind: 3, Name: "v", To: "w"}, api.ErrForm},
		{api.Op{Kind: 4, Name: "v", To: "-"}, api.ErrForm},
		{api.Op{Kind: 1, Name: "v", At: 1, Text: "x"}, api.ErrForm},
		{api.Op{Kind: 2, Name: "v", Text: "x"}, api.ErrForm},
		{api.Op{Kind: 4, Name: "v", Text: "x"}, api.ErrForm},
		{api.Op{Kind: 5, Name: "v", To: "w", Text: "x"}, api.ErrForm},
		{api.Op{Kind: 2, Name: "v", At: 1}, api.ErrForm},
		{api.Op{Kind: 5, Name: "v", To: "w", At: 32}, api.ErrForm},
	} {
		if e := Check(c.o); e != c.want {
			t.Errorf("%#v: %d, want %d", c.o, e, c.want)
		}
	}
}

// Whatever is wrong, what the document has first is told, and Encode, Do and
// Log tell the same.
func TestCheckOfAllP47P48P49P50(t *testing.T) {
	seen := map[api.Errno]int{}
	for o := range ops {
		want := slowCheck(o)
		seen[want]++
		if e := Check(o); e != want {
			t.Fatalf("%#v: %d, want %d", o, e, want)
		}
		if want == api.OK {
			continue
		}
		if s, e := Encode(o); s != "" || e != want {
			t.Fatalf("Encode %#v: %q %d, want %d", o, s, e, want)
		}
		if st, e := Do(api.State{}, o); !empty(st) || e != want {
			t.Fatalf("Do %#v: %v %d, want %d", o, st, e, want)
		}
		if s, e := Log([]api.Op{o}); s != "" || e != want {
			t.Fatalf("Log %#v: %q %d, want %d", o, s, e, want)
		}
	}
	for _, e := range []api.Errno{api.OK, api.ErrArg, api.ErrForm, api.ErrLarge} {
		if seen[e] < 100 {
			t.Error("too few", e, seen)
		}
	}
}

func TestEncodeExamplesP48(t *testing.T) {
	for _, c := range []struct {
		o    api.Op
		want string
	}{
		{api.Op{Kind: 1, Name: "v", At: 2}, "\x01\x02\x01v\x00\x00"},
		{api.Op{Kind: 1, Name: "v"}, "\x01\x00\x01v\x00\x00"},
		{api.Op{Kind: 2, Name: "twelvebytes1"}, "\x02\x00\x0ctwelvebytes1\x00\x00"},
		{api.Op{Kind: 3, Name: "v", At: 1, Text: "xy"}, "\x03\x01\x01v\x00\x02xy"},
		{api.Op{Kind: 3, Name: "v", At: 32}, "\x03\x20\x01v\x00\x00"},
		{api.Op{Kind: 3, Name: "v", Text: strings.Repeat("\x00", 64)}, "\x03\x00\x01v\x00\x40" + strings.Repeat("\x00", 64)},
		{api.Op{Kind: 4, Name: "ab", At: 9}, "\x04\x09\x02ab\x00\x00"},
		{api.Op{Kind: 5, Name: "ab", To: "c"}, "\x05\x00\x02ab\x01c\x00"},
	} {
		if s, e := Encode(c.o); s != c.want || e != api.OK {
			t.Errorf("%#v: %q %d", c.o, s, e)
		}
		if o, e := Decode(c.want); o != c.o || e != api.OK {
			t.Errorf("%q: %#v %d", c.want, o, e)
		}
	}
}

func notDecoded(t *testing.T, s string) {
	t.Helper()
	if o, e := Decode(s); o != (api.Op{}) || e != api.ErrForm {
		t.Errorf("%q: %#v %d", s, o, e)
	}
}

func TestEncodeAndDecodeP48(t *testing.T) {
	for _, o := range goodOps() {
		s, e := Encode(o)
		if s != slowEncode(o) || e != api.OK {
			t.Fatalf("%#v: %q %d", o, s, e)
		}
		if back, e := Decode(s); back != o || e != api.OK {
			t.Fatalf("%q: %#v %d", s, back, e)
		}
		for i := range len(s) {
			notDecoded(t, s[:i])
		}
		for _, rest := range []string{"x", "\x00", s, strings.Repeat("x", 256)} {
			notDecoded(t, s+rest)
		}
	}
}

// A byte that changes makes another operation, or none.
func TestDecodeOfChangedBytesP48(t *testing.T) {
	for _, o := range goodOps() {
		s := slowEncode(o)
		for i := range len(s) {
			for _, x := range []byte{1, 2, 4, 8, 16, 32, 64, 128, 255} {
				b := []byte(s)
				b[i] ^= x
				got, e := Decode(string(b))
				ok := e == api.OK && got != o && Check(got) == api.OK && slowEncode(got) == string(b)
				if !ok && (e != api.ErrForm || got != (api.Op{})) {
					t.Fatalf("%q: %#v %d", b, got, e)
				}
			}
		}
	}
}

func TestDecodeErrorsP48(t *testing.T) {
	for o := range ops {
		// Beyond a byte the encoding is that of something else.
		fits := o.Kind == int(byte(o.Kind)) && o.At == int(byte(o.At)) && len(o.Name) < 256 && len(o.To) < 256 && len(o.Text) < 256
		if fits && slowCheck(o) != api.OK {
			notDecoded(t, slowEncode(o))
		}
	}
	for _, s := range []string{
		"", "\x00", "\x01", "\x01\x01", "\x01\x01\x01", "\x01\x01\x01v", "\x01\x01\x01v\x00",
		"\x01\x01v\x00\x00", "\x01\x01\x02v\x00\x00", "\x01\x01\xffv\x00\x00", "\x01\x01\x00\x01v\x00",
		"\x03\x01\x01v\x00\x01", "\x03\x01\x01v\x00\x02x", "\x03\x01\x01v\x00\x01xy", "\x03\x01\x01v\x00\xff",
		"\x05\x00\x01v\x01", "\x05\x00\x01v\x01w", "\x05\x00\x01v\x02w\x00", "\x05\x00\x01v\x00\x01w",
		"101v00", "\x01\x01\x01v\x00\x00\n", strings.Repeat("\x01", 1<<20),
	} {
		notDecoded(t, s)
	}
}

// Of all short strings those alone are decoded that are encodings.
func TestDecodeOfShortStringsP48(t *testing.T) {
	want := map[string]api.Op{}
	for kind := 1; kind <= 5; kind++ {
		for at := range 33 {
			for _, to := range []string{"", "a", "aa"} {
				for _, text := range []string{"", "\x00", "\x01", "\x02", "\x03", "\x05", "a"} {
					for _, name := range []string{"a", "aa"} {
						o := api.Op{Kind: kind, Name: name, To: to, At: at, Text: text}
						if slowCheck(o) == api.OK {
							want[slowEncode(o)] = o
						}
					}
				}
			}
		}
	}
	found := 0
	var try func(s string, left int)
	try = func(s string, left int) {
		o, e := Decode(s)
		if known, there := want[s]; there != (e == api.OK) || o != known {
			t.Fatalf("%q: %#v %d", s, o, e)
		}
		if e == api.OK {
			found++
		}
		for _, c := range []string{"\x00", "\x01", "\x02", "\x03", "\x05", "a"} {
			if left > 0 {
				try(s+c, left-1)
			}
		}
	}
	try("", 7)
	if found < 10 {
		t.Error("too few", found)
	}
}

func empty(st api.State) bool { return len(st.Bag) == 0 && len(st.Vols) == 0 }

// like compares states field by field; empty and nil lists are alike.
func like(a, b api.State) bool {
	return slices.Equal(a.Bag, b.Bag) && slices.EqualFunc(a.Vols, b.Vols, func(x, y api.Vol) bool {
		return x.Name == y.Name && slices.Equal(x.Blocks, y.Blocks)
	})
}

// after does operations one after another, each by the function that has its
// name.
func after(t *testing.T, st api.State, l ...api.Op) api.State {
	t.Helper()
	for i, o := range l {
		var e api.Errno
		switch o.Kind {
		case 1:
			st, e = vol.Make(st, o.Name, o.At)
		case 2:
			st, e = vol.Drop(st, o.Name)
		case 3:
			st, e = vol.Write(st, o.Name, o.At, o.Text)
		case 4:
			st, e = vol.Trim(st, o.Name, o.At)
		case 5:
			st, e = vol.Clone(st, o.Name, o.To)
		}
		if e != api.OK {
			t.Fatal(i, o, e)
		}
	}
	return st
}

func sampleOps() []api.Op {
	return []api.Op{
		{Kind: 1, Name: "b", At: 3},
		{Kind: 3, Name: "b", At: 0, Text: "x"},
		{Kind: 3, Name: "b", At: 2, Text: ""},
		{Kind: 5, Name: "b", To: "d"},
		{Kind: 1, Name: "c", At: 32},
		{Kind: 3, Name: "c", At: 31, Text: strings.Repeat("\xff", 64)},
		{Kind: 4, Name: "d", At: 2},
		{Kind: 3, Name: "d", At: 0, Text: "y"},
		{Kind: 1, Name: "zzzzzzzzzzzz", At: 1},
		{Kind: 2, Name: "c"},
	}
}

func TestDoP49(t *testing.T) {
	var st api.State
	for i, o := range sampleOps() {
		want := after(t, st, o)
		got, e := Do(st, o)
		if e != api.OK || !like(got, want) || like(got, st) {
			t.Fatal(i, e, got, want)
		}
		st = got
	}
	for _, c := range []struct {
		name string
		want []string
	}{{"b", []string{"x", "", ""}}, {"d", []string{"y", "", ""}}, {"zzzzzzzzzzzz", []string{""}}} {
		for at, text := range c.want {
			if s, e := vol.Read(st, c.name, at); s != text || e != api.OK {
				t.Errorf("%s %d: %q %d", c.name, at, s, e)
			}
		}
	}
	if len(st.Vols) != 3 || len(st.Bag) != 3 || st.Vols[0].Blocks[2].Is == st.Vols[1].Blocks[2].Is {
		t.Error(st)
	}
}

func doFails(t *testing.T, st api.State, o api.Op, want api.Errno) {
	t.Helper()
	if got, e := Do(st, o); !empty(got) || e != want {
		t.Errorf("%#v: %d %v, want %d", o, e, got, want)
	}
}

func TestDoErrorsP49(t *testing.T) {
	st := after(t, api.State{}, sampleOps()...)
	for _, c := range []struct {
		o    api.Op
		want api.Errno
	}{
		{api.Op{Kind: 1, Name: "a", At: 0}, api.ErrArg},
		{api.Op{Kind: 1, Name: "b", At: 1}, api.ErrThere},
		{api.Op{Kind: 2, Name: "a"}, api.ErrNone},
		{api.Op{Kind: 3, Name: "a", Text: "x"}, api.ErrNone},
		{api.Op{Kind: 3, Name: "b", At: 3, Text: "x"}, api.ErrArg},
		{api.Op{Kind: 3, Name: "b", At: 32, Text: "x"}, api.ErrArg},
		{api.Op{Kind: 4, Name: "a"}, api.ErrNone},
		{api.Op{Kind: 4, Name: "b", At: 3}, api.ErrArg},
		{api.Op{Kind: 5, Name: "a", To: "e"}, api.ErrNone},
		{api.Op{Kind: 5, Name: "b", To: "b"}, api.ErrThere},
		{api.Op{Kind: 5, Name: "b", To: "d"}, api.ErrThere},
		// What Check finds comes ahead of what the function would.
		{api.Op{Kind: 9, Name: "a"}, api.ErrArg},
		{api.Op{Kind: 2, Name: "A"}, api.ErrForm},
		{api.Op{Kind: 3, Name: "a", Text: strings.Repeat("x", 65)}, api.ErrLarge},
		{api.Op{Kind: 1, Name: "b", At: 33}, api.ErrArg},
		{api.Op{Kind: 2, Name: "a", To: "b"}, api.ErrForm},
		{api.Op{Kind: 5, Name: "a", To: "b", At: 1}, api.ErrForm},
	} {
		doFails(t, st, c.o, c.want)
	}
}

func TestDoWithoutRoomP49(t *testing.T) {
	var st api.State
	for _, name := range []string{"a", "b", "c"} {
		st = after(t, st, api.Op{Kind: 1, Name: name, At: 32})
	}
	for i := range 64 {
		st = after(t, st, api.Op{Kind: 3, Name: []string{"a", "b"}[i/32], At: i % 32, Text: string([]byte{byte(i)})})
	}
	doFails(t, st, api.Op{Kind: 3, Name: "c", Text: "new"}, api.ErrFull)
	for _, name := range []string{"d", "e", "f"} {
		st = after(t, st, api.Op{Kind: 5, Name: "a", To: name})
	}
	doFails(t, st, api.Op{Kind: 1, Name: "g", At: 1}, api.ErrFull)
	doFails(t, st, api.Op{Kind: 5, Name: "a", To: "g"}, api.ErrFull)
	// The room of what was there is free for what is written.
	o := api.Op{Kind: 3, Name: "b", At: 3, Text: "new"}
	if got, e := Do(st, o); e != api.OK || !like(got, after(t, st, o)) {
		t.Error(e, got)
	}
}

func TestDoChecksStatesP49(t *testing.T) {
	for want, spoil := range map[api.Errno]func(st *api.State){
		api.ErrSum:   func(st *api.State) { st.Bag[0].Sum++ },
		api.ErrArg:   func(st *api.State) { st.Bag[0].Refs = 0 },
		api.ErrLarge: func(st *api.State) { st.Vols = append(st.Vols, make([]api.Vol, 4)...) },
		api.ErrForm:  func(st *api.State) { st.Vols[0].Name = "" },
		api.ErrNone:  func(st *api.State) { st.Vols[0].Blocks[1] = api.Id{Is: true} },
		api.ErrLen:   func(st *api.State) { st.Bag[0].Refs++ },
	} {
		st := after(t, api.State{}, sampleOps()...)
		spoil(&st)
		for _, o := range goodOps() {
			doFails(t, st, o, want)
		}
		doFails(t, st, api.Op{Kind: 0, Name: "v"}, api.ErrArg)
		doFails(t, st, api.Op{Kind: 1, Name: "V"}, api.ErrForm)
		doFails(t, st, api.Op{Kind: 3, Name: "v", Text: strings.Repeat("x", 65)}, api.ErrLarge)
	}
}

func TestLogP50(t *testing.T) {
	for _, c := range []struct {
		l    []api.Op
		want string
	}{
		{nil, ""},
		{[]api.Op{}, ""},
		{[]api.Op{{Kind: 1, Name: "v", At: 2}}, slowFrame(1, "\x01\x02\x01v\x00\x00")},
		{[]api.Op{{Kind: 1, Name: "v", At: 2}, {Kind: 3, Name: "v", At: 1, Text: "xy"}}, slowFrame(1, "\x01\x02\x01v\x00\x00") + slowFrame(1, "\x03\x01\x01v\x00\x02xy")},
		// A log need not be one that can be replayed.
		{[]api.Op{{Kind: 2, Name: "v"}, {Kind: 2, Name: "v"}}, slowFrame(1, "\x02\x00\x01v\x00\x00") + slowFrame(1, "\x02\x00\x01v\x00\x00")},
		{[]api.Op{{Kind: 1, Name: "v", At: 0}}, slowFrame(1, "\x01\x00\x01v\x00\x00")},
		{sampleOps(), slowLog(sampleOps()...)},
		{goodOps()[:200], slowLog(goodOps()[:200]...)},
	} {
		if s, e := Log(c.l); s != c.want || e != api.OK {
			t.Errorf("%d: %q %d", len(c.l), s, e)
		}
	}
	if s, e := Log(sampleOps()[:1]); s != "\x01\x00\x06\x01\x03\x01b\x00\x00"+s[9:] || len(s) != 13 || e != api.OK {
		t.Errorf("%q %d", s, e)
	}
}

func logFails(t *testing.T, want api.Errno, l ...api.Op) {
	t.Helper()
	if s, e := Log(l); s != "" || e != want {
		t.Errorf("%d: %q %d, want %d", len(l), s, e, want)
	}
}

func TestLogErrorsP50(t *testing.T) {
	good := api.Op{Kind: 2, Name: "v"}
	arg, form := api.Op{Kind: 6, Name: "v"}, api.Op{Kind: 2, Name: "V"}
	large := api.Op{Kind: 3, Name: "v", Text: strings.Repeat("x", 65)}
	full := slices.Repeat([]api.Op{good}, 200)
	logFails(t, api.ErrLarge, append(full, good)...)
	logFails(t, api.ErrLarge, slices.Repeat(full, 50)...)
	logFails(t, api.ErrLarge, slices.Repeat([]api.Op{arg}, 201)...)
	logFails(t, api.ErrArg, slices.Repeat([]api.Op{arg}, 200)...)
	logFails(t, api.ErrArg, append(full[:199:199], arg)...)
	logFails(t, api.ErrArg, arg, form, large)
	logFails(t, api.ErrForm, form, arg, large)
	logFails(t, api.ErrLarge, good, large, arg, form)
	logFails(t, api.ErrForm, good, good, form, good, large)
}

func replays(t *testing.T, s string, want api.State, many int) {
	t.Helper()
	if st, n, e := Replay(s); e != api.OK || n != many || !like(st, want) {
		t.Errorf("%q: %d %d %v, want %d %v", s, e, n, st, many, want)
	}
}

func replayFails(t *testing.T, s string, want api.Errno) {
	t.Helper()
	if st, n, e := Replay(s); e != want || n != 0 || !empty(st) {
		t.Errorf("%d bytes: %d %d %v, want %d", len(s), e, n, st, want)
	}
}

// Wherever a log is cut off, the operations whose frames are whole are done.
func everyPrefix(t *testing.T, l []api.Op) {
	t.Helper()
	all, e := Log(l)
	if e != api.OK {
		t.Fatal(e)
	}
	var st api.State
	at := 0
	for n, o := range l {
		size := len(slowLog(o))
		for i := range size {
			replays(t, all[:at+i], st, n)
		}
		st, at = after(t, st, o), at+size
	}
	if at != len(all) {
		t.Error(at, len(all))
	}
	replays(t, all, st, len(l))
}

func TestReplayP51(t *testing.T) {
	replays(t, "", api.State{}, 0)
	everyPrefix(t, nil)
	everyPrefix(t, sampleOps())
}

// work makes many operations that can be done one after another.
func work(t *testing.T, many int) []api.Op {
	x := uint32(51)
	chance := func(n int) int {
		x = x*1664525 + 1013904223
		return int(x>>8) % n
	}
	names := []string{"a", "b", "c", "d", "e", "f", "zzzzzzzzzzzz"}
	var st api.State
	var l []api.Op
	for len(l) < many {
		o := api.Op{Kind: []int{1, 2, 3, 3, 3, 3, 4, 5}[chance(8)], Name: names[chance(7)]}
		switch o.Kind {
		case 1, 4:
			o.At = chance(33)
		case 3:
			o.At, o.Text = chance(33), strings.Repeat("x", chance(65))
		case 5:
			o.To = names[chance(7)]
		}
		next, e := Do(st, o)
		if e == api.OK {
			l, st = append(l, o), next
		}
	}
	return l
}

func TestReplayOfManyP51(t *testing.T) {
	everyPrefix(t, work(t, 40))
	l := work(t, 200)
	var st api.State
	for n, o := range l {
		replays(t, slowLog(l[:n]...), st, n)
		st = after(t, st, o)
	}
	replays(t, slowLog(l...), st, 200)
}

// With 200 operations done, one more is too many, but not what is cut off.
func TestReplayOfTooManyP51(t *testing.T) {
	l := work(t, 200)
	all, st := slowLog(l...), after(t, api.State{}, l...)
	good := slowFrame(1, "\x01\x01\x01g\x00\x00")
	for i := range len(good) {
		replays(t, all+good[:i], st, 200)
	}
	for _, frame := range []string{good, good + good, good + "\x00\x00\x00", slowFrame(2, "ab"), slowFrame(1, ""), slowFrame(1, "\x02\x00\x04none\x00\x00"), slowFrame(255, strings.Repeat("x", 700))} {
		replayFails(t, all+frame, api.ErrLarge)
	}
	// What frame.Get finds wrong comes first.
	replayFails(t, all+"\x00\x00\x00", api.ErrForm)
	replayFails(t, all+"\x01\x02\xbd", api.ErrForm)
	replayFails(t, all+good[:len(good)-1]+"?", api.ErrSum)
	replayFails(t, strings.Repeat(slowLog(api.Op{Kind: 1, Name: "v", At: 1}, api.Op{Kind: 2, Name: "v"}), 5000), api.ErrLarge)
}

// What is wrong behind any number of operations, and is told of the first
// frame that has it.
func TestReplayErrorsP51(t *testing.T) {
	good := slowFrame(1, "\x01\x01\x01g\x00\x00")
	sum := good[:len(good)-1] + "?"
	body := "\x02\x00\x01b\x00\x00"
	for n := range len(sampleOps()) + 1 {
		before := slowLog(sampleOps()[:n]...)
		for _, rest := range []string{"", "\x01", good, sum, "\x00\x00\x00"} {
			for _, bad := range []string{
				"\x00\x00\x00", "\x00\xff\xff", "\x01\x02\xbd", "\x01\xff\xff",
				slowFrame(2, "\x01\x01\x01g\x00\x00"), slowFrame(255, body), slowFrame(128, ""),
				slowFrame(1, ""), slowFrame(1, body[1:]), slowFrame(1, body[:5]), slowFrame(1, body+"\x00"), slowFrame(1, "\x06"+body[1:]),
				slowFrame(1, good), slowFrame(1, strings.Repeat("a", 700)),
				slowFrame(1, "\x01\x00\x01g\x00\x00"), slowFrame(1, "\x02\x00\x01g\x00\x00"), slowFrame(1, "\x05\x00\x01g\x01h\x00"),
			} {
				replayFails(t, before+bad+rest, api.ErrForm)
			}
			replayFails(t, before+sum+rest, api.ErrSum)
		}
	}
	// Each error of a function comes out as the same one.
	v := api.Op{Kind: 1, Name: "v", At: 2}
	for _, o := range []api.Op{v, {Kind: 1, Name: "w"}, {Kind: 3, Name: "v", At: 2}, {Kind: 3, Name: "w"}, {Kind: 4, Name: "v", At: 32}, {Kind: 5, Name: "v", To: "v"}} {
		replayFails(t, slowLog(v, o), api.ErrForm)
	}
	full := []api.Op{{Kind: 1, Name: "a", At: 1}, {Kind: 1, Name: "b", At: 1}, {Kind: 1, Name: "c", At: 1}, {Kind: 1, Name: "d", At: 1}, {Kind: 1, Name: "e", At: 1}, {Kind: 1, Name: "f", At: 1}}
	replayFails(t, slowLog(append(full, api.Op{Kind: 1, Name: "g", At: 1})...), api.ErrForm)
}

// A byte that changes is found, or makes a frame longer than what is there.
func TestReplayOfChangedBytesP51(t *testing.T) {
	all := slowLog(sampleOps()...)
	for i := range 8 * len(all) {
		b := []byte(all)
		b[i/8] ^= 1 << (i % 8)
		st, n, e := Replay(string(b))
		whole := e == api.OK && n < len(sampleOps()) && like(st, after(t, api.State{}, sampleOps()[:n]...))
		if !whole && (e != api.ErrSum && e != api.ErrForm || n != 0 || !empty(st)) {
			t.Fatal(i, e, n, st)
		}
	}
}

func TestNothingPanicsP1(t *testing.T) {
	x := uint32(1)
	for i := range 20000 {
		b := make([]byte, i%40)
		for j := range b {
			x = x*1664525 + 1013904223
			b[j] = byte(x>>24) % []byte{4, 8, 128, 255}[i%4]
		}
		if o, e := Decode(string(b)); e != api.OK && o != (api.Op{}) {
			t.Fatalf("%q: %#v %d", b, o, e)
		}
		for _, s := range []string{string(b), slowFrame(1, string(b)), slowLog(sampleOps()...) + string(b)} {
			if st, n, e := Replay(s); e != api.OK && (n != 0 || !empty(st)) {
				t.Fatalf("%q: %v %d %d", s, st, n, e)
			}
		}
	}
}

// texts lists all strings of a state.
func texts(st api.State) []string {
	var l []string
	for _, x := range st.Bag {
		l = append(l, x.Text)
	}
	for _, v := range st.Vols {
		l = append(l, v.Name)
	}
	return l
}

func overlap(a, b string) bool {
	from, at := uintptr(unsafe.Pointer(unsafe.StringData(a))), uintptr(unsafe.Pointer(unsafe.StringData(b)))
	return at < from+uintptr(len(a)) && from < at+uintptr(len(b))
}

// apart expects that strings share nothing with each other nor with those
// that are given.
func apart(t *testing.T, what string, l []string, given ...string) {
	t.Helper()
	for i, s := range l {
		for _, other := range append(slices.Clone(given), l[:i]...) {
			if overlap(s, other) {
				t.Errorf("%s shares %q with %q", what, s, other)
			}
		}
	}
}

func TestStringsAreNewMemoryP2(t *testing.T) {
	all := strings.Clone("anametotext")
	name, to, text := all[:5], all[5:7], all[7:]
	for _, o := range []api.Op{{Kind: 1, Name: name, At: 1}, {Kind: 5, Name: name, To: to}, {Kind: 3, Name: name, At: 1, Text: text}} {
		s, e := Encode(o)
		back, f := Decode(s)
		if e != api.OK || f != api.OK {
			t.Fatal(e, f)
		}
		apart(t, "Encode", []string{s}, all)
		apart(t, "Decode", []string{back.Name, back.To, back.Text}, s, all)
		one, _ := Log([]api.Op{o})
		apart(t, "Log", []string{one}, all, s)
	}
	st := after(t, api.State{}, sampleOps()...)
	for _, o := range []api.Op{{Kind: 1, Name: name, At: 3}, {Kind: 3, Name: "b", At: 1, Text: text}, {Kind: 5, Name: "b", To: to}, {Kind: 4, Name: "b"}, {Kind: 2, Name: "b"}} {
		got, e := Do(st, o)
		if e != api.OK {
			t.Fatal(o, e)
		}
		apart(t, "Do", texts(got), append(texts(st), all)...)
	}
	s := slowLog(sampleOps()...)
	got, _, _ := Replay(s)
	apart(t, "Replay", texts(got), s)
}

// keep copies a state with all that stands in its spare places.
func keep(st api.State) api.State {
	vols := slices.Clone(st.Vols[:cap(st.Vols)])
	for i, v := range vols {
		vols[i].Blocks = slices.Clone(v.Blocks[:cap(v.Blocks)])
	}
	return api.State{Bag: slices.Clone(st.Bag[:cap(st.Bag)]), Vols: vols}
}

// overwrite spoils all lists of a state.
func overwrite(st api.State) {
	for _, v := range st.Vols[:cap(st.Vols)] {
		for i := range v.Blocks[:cap(v.Blocks)] {
			v.Blocks[:cap(v.Blocks)][i] = api.Id{Sum: -1, N: -1}
		}
	}
	clear(st.Vols[:cap(st.Vols)])
	clear(st.Bag[:cap(st.Bag)])
}

func TestArgumentsStayP2(t *testing.T) {
	st := after(t, api.State{}, sampleOps()...)
	st.Bag = append(st.Bag, api.Item{N: 9})[:len(st.Bag)]
	st.Vols = append(st.Vols, api.Vol{Name: "spare"})[:len(st.Vols)]
	st.Vols[0].Blocks = append(st.Vols[0].Blocks, api.Id{N: 9})[:len(st.Vols[0].Blocks)]
	before := keep(st)
	for _, o := range append(goodOps(), api.Op{Kind: 3, Name: "b", At: 1, Text: "x"}, api.Op{Kind: 3, Name: "b", Text: "new"}, api.Op{Kind: 4, Name: "b"}, api.Op{Kind: 2, Name: "b"}, api.Op{Kind: 5, Name: "b", To: "c"}) {
		got, _ := Do(st, o)
		overwrite(got)
		if !reflect.DeepEqual(keep(st), before) {
			t.Fatalf("%#v: %v", o, st)
		}
	}
	l := append(sampleOps(), api.Op{Kind: 9})
	Log(l[:len(sampleOps())])
	if !slices.Equal(l, append(sampleOps(), api.Op{Kind: 9})) {
		t.Error(l)
	}
}

// What one call answers stays what it is when another one is made, and the
// same call answers the same.
func TestNothingIsKeptP2(t *testing.T) {
	s := slowLog(sampleOps()...)
	first, n, e := Replay(s)
	if e != api.OK || n != len(sampleOps()) {
		t.Fatal(n, e)
	}
	again, _, _ := Replay(s)
	overwrite(again)
	third, _, _ := Replay(s)
	if want := after(t, api.State{}, sampleOps()...); !like(first, want) || !like(third, want) {
		t.Error(first, third)
	}
}
