package schema

import (
	"slices"

	"copydesk/api"
)

// grow finds the types that can be made: first those that need nothing, then those that need these alone, and so on.
func (b *book) grow() {
	for grows := true; grows; {
		before := b.made
		for i, t := range b.types {
			if !b.made.has(i) && b.makes(i, t) {
				b.made |= 1 << i
			}
		}
		grows = b.made != before
	}
}

// makes tells whether t, the i-th type, can be made of those that can.
func (b *book) makes(i int, t api.NodeType) bool {
	if t.Name == text || slices.ContainsFunc(t.Attrs, must) {
		return false
	}
	_, ok := b.least(b.contents[i])
	return ok
}

func must(s api.AttrSpec) bool {
	return s.Must
}

// least answers the shortest row of types that can be made which e lets in, of these the least one; false, if there is none.
// It is what match.Fill tells of e's machine: but that may have millions of states, where e has some parts.
func (b *book) least(e api.Expr) ([]string, bool) {
	switch e.Kind {
	case api.ExprSeq:
		return b.leastRow(e.Kids)
	case api.ExprAlt:
		return b.leastChoice(e.Kids)
	case api.ExprMany:
		return b.leastMany(e.Kids[0], e.Min)
	}
	types := b.stands(e.Name) & b.made
	// A set's lowest bit is its least type.
	return b.names(types & -types), types != 0
}

// leastRow puts the kids' least rows together: no other row is as short, and none of those as short is less.
func (b *book) leastRow(kids []api.Expr) ([]string, bool) {
	var all []string
	for _, kid := range kids {
		row, ok := b.least(kid)
		if !ok {
			return nil, false
		}
		all = append(all, row...)
	}
	return all, true
}

func (b *book) leastChoice(kids []api.Expr) ([]string, bool) {
	var rows [][]string
	for _, kid := range kids {
		if row, ok := b.least(kid); ok {
			rows = append(rows, row)
		}
	}
	if len(rows) == 0 {
		return nil, false
	}
	return slices.MinFunc(rows, shorter), true
}

// shorter compares rows: by how long they are, then type by type.
func shorter(x, y []string) int {
	if len(x) != len(y) {
		return len(x) - len(y)
	}
	return slices.Compare(x, y)
}

// leastMany answers the least row of low times kid, if low is as often as kid must stand.
func (b *book) leastMany(kid api.Expr, low int) ([]string, bool) {
	if low == 0 {
		return nil, true
	}
	row, ok := b.least(kid)
	return slices.Repeat(row, low), ok
}
