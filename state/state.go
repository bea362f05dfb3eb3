// Package state: what several packages do with the plain types of bags and
// volumes, which package api has without functions.
package state

import (
	"slices"
	"strings"

	"woolsack/api"
)

// Id answers the identifier of an item.
func Id(x api.Item) api.Id {
	return api.Id{Is: true, Sum: x.Sum, N: x.N}
}

// CloneBag copies the texts too, so that the copy shares no memory with l.
func CloneBag(l []api.Item) []api.Item {
	all := slices.Clone(l)
	for i := range all {
		all[i].Text = strings.Clone(all[i].Text)
	}
	return all
}

// Clone copies all that a state is made of, so that the copy shares no memory
// with st.
func Clone(st api.State) api.State {
	vols := slices.Clone(st.Vols)
	for i, v := range vols {
		vols[i] = api.Vol{Name: strings.Clone(v.Name), Blocks: slices.Clone(v.Blocks)}
	}
	return api.State{Bag: CloneBag(st.Bag), Vols: vols}
}
