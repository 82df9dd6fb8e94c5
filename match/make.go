package match

import (
	"cmp"
	"slices"

	"copydesk/api"
	"copydesk/expr"
)

// Make answers the smallest machine of e, whose names may be groups'.
func Make(e api.Expr, l []api.Group) (api.Auto, api.Errno) {
	if err := cmp.Or(expr.Check(e), CheckGroups(l)); err != api.OK {
		return api.Auto{}, err
	}
	f := write(e)
	return found(f, f.letters(l)).auto(), api.OK
}

// table is the sets of spots that rows of letters lead to, as states that may be too many.
type table struct {
	*frame
	letters []letter
	sets    []set   // the shortest row's first, of these the least one's
	to      [][]int // by set and letter: the number of the set behind; -1, if there is none
}

// found answers the table of a frame. From each of its spots an end can be reached, so from each of its sets: none is needless.
func found(f *frame, letters []letter) *table {
	t := &table{frame: f, letters: letters, sets: []set{start}}
	numbers := map[string]int{string(start.spots()): 0}
	for i := 0; i < len(t.sets); i++ {
		next := f.next(t.sets[i])
		to := make([]int, len(letters))
		for k, l := range letters {
			to[k] = t.number(numbers, next&l.at)
		}
		t.to = append(t.to, to)
	}
	return t
}

// number is that of s, which is put behind all sets if it is new.
func (t *table) number(numbers map[string]int, s set) int {
	if s == 0 {
		return -1
	}
	key := s.spots()
	n, ok := numbers[string(key)]
	if !ok {
		n = len(t.sets)
		numbers[string(key)] = n
		t.sets = append(t.sets, s)
	}
	return n
}

// auto is the machine of t.
func (t *table) auto() api.Auto {
	var a api.Auto
	states := t.merged()
	for i, state := range states {
		// The first set of a state is the one to which the state's least row leads: so states are numbered as they come.
		if state == len(a.States) {
			a.States = append(a.States, api.State{Ends: t.end(i) == 1, Edges: t.edges(i, states)})
		}
	}
	return a
}

// end is 1, if the row that leads to the i-th set fits, else 0.
func (t *table) end(i int) int {
	if t.sets[i]&t.ends != 0 {
		return 1
	}
	return 0
}

func (t *table) edges(i int, states []int) []api.Edge {
	var edges []api.Edge
	for k, to := range t.to[i] {
		if to < 0 {
			continue
		}
		for _, typ := range t.letters[k].types {
			edges = append(edges, api.Edge{Type: typ, To: states[to]})
		}
	}
	slices.SortFunc(edges, byType)
	return edges
}

// merged answers each set's state: the same, just if the same rows lead from both sets to an end.
func (t *table) merged() []int {
	states, count := numbered(len(t.sets), func(i int) [2]int { return [2]int{t.end(i), 0} })
	// States are told apart by where one letter leads, until no letter tells any apart.
	for before := 0; before < count; {
		before = count
		for k := range t.letters {
			states, count = numbered(len(t.sets), func(i int) [2]int {
				if to := t.to[i][k]; to >= 0 {
					return [2]int{states[i], states[to]}
				}
				return [2]int{states[i], -1}
			})
		}
	}
	return states
}

// numbered answers the numbers of n pairs, in the order in which they come first, and how many there are.
func numbered(n int, pair func(int) [2]int) ([]int, int) {
	seen := map[[2]int]int{}
	numbers := make([]int, n)
	for i := range n {
		p := pair(i)
		number, ok := seen[p]
		if !ok {
			number = len(seen)
			seen[p] = number
		}
		numbers[i] = number
	}
	return numbers, len(seen)
}
