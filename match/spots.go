package match

import (
	"maps"
	"math/bits"
	"slices"

	"copydesk/api"
)

// set holds spots, a bit each: api.MaxSize and one more are enough.
type set uint64

// spots are those of s, rising, a byte each.
func (s set) spots() []byte {
	l := make([]byte, 0, api.MaxSize+1)
	for ; s != 0; s &= s - 1 {
		l = append(l, byte(bits.TrailingZeros64(uint64(s))))
	}
	return l
}

// start is the set of the spot that stands ahead of all names.
const start set = 1

// frame is an expression written out: each of its names, as many times as it may stand, has a spot.
type frame struct {
	names  []string // by spot; start's is empty
	behind []set    // by spot: those that may come next
	ends   set      // those behind which nothing needs to come
}

// part is one of a frame: where it may begin and end, and whether it may be nothing at all.
type part struct {
	first, last set
	empty       bool
}

// write answers the frame of an expression that expr.Check finds no fault with.
func write(e api.Expr) *frame {
	f := &frame{}
	ahead := f.spot("")
	f.ends = f.join(ahead, f.add(e)).last
	return f
}

func (f *frame) add(e api.Expr) part {
	switch e.Kind {
	case api.ExprSeq:
		return f.row(e.Kids)
	case api.ExprAlt:
		return f.choice(e.Kids)
	case api.ExprMany:
		return f.many(e.Kids[0], e.Min, e.Max)
	}
	return f.spot(e.Name)
}

func (f *frame) spot(name string) part {
	spot := start << len(f.names)
	f.names = append(f.names, name)
	f.behind = append(f.behind, 0)
	return part{first: spot, last: spot}
}

func (f *frame) row(kids []api.Expr) part {
	all := part{empty: true}
	for _, kid := range kids {
		all = f.join(all, f.add(kid))
	}
	return all
}

func (f *frame) choice(kids []api.Expr) part {
	var all part
	for _, kid := range kids {
		p := f.add(kid)
		all.first |= p.first
		all.last |= p.last
		all.empty = all.empty || p.empty
	}
	return all
}

func (f *frame) many(kid api.Expr, low, high int) part {
	all := part{empty: true}
	for range low {
		all = f.join(all, f.add(kid))
	}
	if high == -1 {
		p := f.add(kid)
		f.link(p.last, p.first)
		p.empty = true
		return f.join(all, p)
	}
	for range high - low {
		p := f.add(kid)
		p.empty = true
		all = f.join(all, p)
	}
	return all
}

// join puts b behind a.
func (f *frame) join(a, b part) part {
	f.link(a.last, b.first)
	both := part{first: a.first, last: b.last, empty: a.empty && b.empty}
	if a.empty {
		both.first |= b.first
	}
	if b.empty {
		both.last |= a.last
	}
	return both
}

// link lets each spot of to come behind each one of from.
func (f *frame) link(from, to set) {
	for _, spot := range from.spots() {
		f.behind[spot] |= to
	}
}

// next are the spots that may come behind one of s.
func (f *frame) next(s set) set {
	var next set
	for _, spot := range s.spots() {
		next |= f.behind[spot]
	}
	return next
}

// letter is types that may stand at the same spots: one of them is as good as another.
type letter struct {
	at    set
	types []string
}

// letters are those of f's types, by the least type of each.
func (f *frame) letters(groups []api.Group) []letter {
	at := map[string]set{}
	for i, name := range f.names[1:] {
		for _, typ := range stands(name, groups) {
			at[typ] |= start << (i + 1)
		}
	}
	var letters []letter
	index := map[set]int{}
	for _, typ := range slices.Sorted(maps.Keys(at)) {
		i, ok := index[at[typ]]
		if !ok {
			i = len(letters)
			index[at[typ]] = i
			letters = append(letters, letter{at: at[typ]})
		}
		letters[i].types = append(letters[i].types, typ)
	}
	return letters
}

// stands is what a name stands for.
func stands(name string, groups []api.Group) []string {
	i := slices.IndexFunc(groups, func(g api.Group) bool { return g.Name == name })
	if i < 0 {
		return []string{name}
	}
	return groups[i].Types
}
