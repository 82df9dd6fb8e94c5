package schema

import (
	"cmp"
	"maps"
	"math/bits"
	"slices"

	"copydesk/api"
)

// set holds types, a bit each: api.MaxTypes are not too many.
type set uint32

func (l set) has(i int) bool {
	return l&(1<<i) != 0
}

// index tells what the names of a schema stand for. A type's bit is its place by rising Name, so that the lowest bit of a set is its least type.
type index struct {
	types  []api.NodeType // by rising Name
	marks  []api.MarkType // by rank
	inline set
	groups map[string]set
}

// indexed answers the index of s, which has no more types than a set can hold.
func indexed(s api.Schema) index {
	x := index{types: slices.Clone(s.Types), marks: s.Marks, groups: map[string]set{}}
	slices.SortFunc(x.types, func(a, b api.NodeType) int { return cmp.Compare(a.Name, b.Name) })
	for i, t := range x.types {
		if t.Inline {
			x.inline |= 1 << i
		}
		for _, group := range t.Groups {
			x.groups[group] |= 1 << i
		}
	}
	return x
}

// find answers the place of the type of that name among x.types.
func (x *index) find(name string) (int, bool) {
	return slices.BinarySearchFunc(x.types, name, func(t api.NodeType, name string) int { return cmp.Compare(t.Name, name) })
}

// rank answers the place of the mark of that name; -1, if there is none.
func (x *index) rank(name string) int {
	return slices.IndexFunc(x.marks, func(m api.MarkType) bool { return m.Name == name })
}

// stands are the types that a name of a type or of a group stands for; none, if it is neither.
func (x *index) stands(name string) set {
	if i, ok := x.find(name); ok {
		return 1 << i
	}
	return x.groups[name]
}

// names are those of the types of l, rising.
func (x *index) names(l set) []string {
	var names []string
	for ; l != 0; l &= l - 1 {
		names = append(names, x.types[bits.TrailingZeros32(uint32(l))].Name)
	}
	return names
}

// grouped are all groups, by rising Name.
func (x *index) grouped() []api.Group {
	var groups []api.Group
	for _, name := range slices.Sorted(maps.Keys(x.groups)) {
		groups = append(groups, api.Group{Name: name, Types: x.names(x.groups[name])})
	}
	return groups
}
