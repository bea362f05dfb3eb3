package state

import (
	"reflect"
	"testing"
	"unsafe"

	"woolsack/api"
)

func sample() api.State {
	id := api.Id{Is: true, Sum: 376}
	return api.State{
		Bag:  []api.Item{{Sum: 376, Text: "x", Refs: 2}, {Sum: 377, N: 4, Text: "y", Refs: 1}},
		Vols: []api.Vol{{Name: "a", Blocks: []api.Id{id, {}, id}}, {Name: "b", Blocks: []api.Id{{Is: true, Sum: 377, N: 4}}}, {Name: "c"}},
	}
}

func TestId(t *testing.T) {
	if id := Id(api.Item{Sum: 5, N: 6, Text: "t", Refs: 7}); id != (api.Id{Is: true, Sum: 5, N: 6}) {
		t.Error(id)
	}
}

func TestCloneIsEqual(t *testing.T) {
	if st := Clone(sample()); !reflect.DeepEqual(st, sample()) {
		t.Error(st)
	}
	if st := Clone(api.State{}); len(st.Bag) != 0 || len(st.Vols) != 0 {
		t.Error(st)
	}
}

func same(a, b string) bool { return unsafe.StringData(a) == unsafe.StringData(b) }

func TestCloneIsNewMemoryP2(t *testing.T) {
	given := sample()
	st := Clone(given)
	for i := range st.Bag {
		if same(st.Bag[i].Text, given.Bag[i].Text) {
			t.Error("Text", i)
		}
		st.Bag[i] = api.Item{}
	}
	for i, v := range st.Vols {
		if same(v.Name, given.Vols[i].Name) {
			t.Error("Name", i)
		}
		for j := range v.Blocks {
			v.Blocks[j] = api.Id{N: 9}
		}
		st.Vols[i] = api.Vol{}
	}
	if !reflect.DeepEqual(given, sample()) {
		t.Error(given)
	}
}
