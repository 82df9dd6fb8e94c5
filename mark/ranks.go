package mark

import (
	"slices"

	"copydesk/api"
	"copydesk/attr"
)

// All of this is asked only of schemas that may be. Types of marks are held in a uint, a bit each by rank: api.MaxMarks are not too many.

// find answers the rank of the type of that name; -1, if there is none.
func find(s api.Schema, typ string) int {
	return slices.IndexFunc(s.Marks, func(t api.MarkType) bool { return t.Name == typ })
}

// whole tells whether l is a set.
func whole(s api.Schema, l []api.Mark) bool {
	set := uint(0)
	for _, m := range l {
		rank := find(s, m.Type)
		if rank < 0 || !attr.Fits(s.Marks[rank].Attrs, m.Attrs) {
			return false
		}
		// Ranks rise: none of this rank, or of a higher one, is there yet.
		if set>>rank != 0 {
			return false
		}
		set |= 1 << rank
	}
	return agree(set, exclusions(s))
}

// exclusions are by rank the types among the Excludes of the type of that rank.
func exclusions(s api.Schema) []uint {
	excluded := make([]uint, len(s.Marks))
	for rank, t := range s.Marks {
		for _, name := range t.Excludes {
			excluded[rank] |= 1 << find(s, name)
		}
	}
	return excluded
}

// agree tells whether no two types of set exclude one another: each of them is asked, so that it counts whichever excludes the other.
func agree(set uint, excluded []uint) bool {
	for rank, others := range excluded {
		if set>>rank&1 != 0 && set&others != 0 {
			return false
		}
	}
	return true
}
