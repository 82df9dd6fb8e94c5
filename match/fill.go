package match

import (
	"slices"

	"copydesk/api"
)

// visit is a state that was come to: by a type, from the state of an earlier visit.
type visit struct {
	state int
	typ   string
	from  int
}

// Fill answers the shortest row of types that are among may, of these the least one, behind which rest leads from state to one that Ends.
func Fill(a api.Auto, state int, rest, may []string) ([]string, bool) {
	if !there(a, state) {
		return nil, false
	}
	allowed := slices.Sorted(slices.Values(may))
	seen := make([]bool, len(a.States))
	seen[state] = true
	visits := []visit{{state: state}}
	// States are come to by rising rows, the shorter ones first: what is found first is what is asked for.
	for i := 0; i < len(visits); i++ {
		if fits(a, visits[i].state, rest...) {
			return row(visits, i), true
		}
		for _, e := range edges(a, visits[i].state) {
			if _, ok := slices.BinarySearch(allowed, e.Type); ok && !seen[e.To] {
				seen[e.To] = true
				visits = append(visits, visit{state: e.To, typ: e.Type, from: i})
			}
		}
	}
	return nil, false
}

// row is the types by which the i-th visit was come to.
func row(visits []visit, i int) []string {
	var types []string
	for ; i > 0; i = visits[i].from {
		types = append(types, visits[i].typ)
	}
	slices.Reverse(types)
	return types
}
