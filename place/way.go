package place

import (
	"iter"

	"copydesk/api"
	"copydesk/row"
)

// document is a document whose places are asked for.
type document struct {
	top  part
	row  []api.Token
	ends []int // of each token that begins a node, the place behind the one that ends it
}

// part is a node of a document: the place ahead of it, and the one behind it.
type part struct {
	node     api.Node
	from, to int
}

// open answers n as a document; the error of row.Of, or ErrPlace, unless from and to are places of its row, from not above to.
func open(s api.Schema, n api.Node, from, to int) (document, api.Errno) {
	l, e := row.Of(s, n)
	if e != api.OK {
		return document{}, e
	}
	if from < 0 || from > to || to > len(l) {
		return document{}, api.ErrPlace
	}
	// The document has no tokens of its own. As if it had, its row lies between them, as those of all other nodes do.
	top := part{node: n, from: -1, to: len(l) + 1}
	return document{top: top, row: l, ends: ends(l)}, api.OK
}

// ends answers, of each token of l, the place behind it; of a TokOpen the one behind the TokClose that ends it.
func ends(l []api.Token) []int {
	all := make([]int, len(l))
	var begun []int
	for i, t := range l {
		all[i] = i + 1
		switch t.Kind {
		case api.TokOpen:
			begun = append(begun, i)
		case api.TokClose:
			all[begun[len(begun)-1]] = i + 1
			begun = begun[:len(begun)-1]
		}
	}
	return all
}

// within answers where the Kids of p begin and end.
func (p part) within() (from, to int) {
	return p.from + 1, p.to - 1
}

// around tells whether place lies between where p begins and where it ends.
func (p part) around(place int) bool {
	return p.from < place && place < p.to
}

// kids tells the Kids of p, and how many stand ahead of each.
func (d document) kids(p part) iter.Seq2[int, part] {
	return func(yield func(int, part) bool) {
		at, _ := p.within()
		for i, n := range p.node.Kids {
			kid := part{node: n, from: at, to: d.ends[at]}
			if n.Type == text {
				kid.to = at + len(n.Text)
			}
			if !yield(i, kid) {
				return
			}
			at = kid.to
		}
	}
}

// nodes tells all nodes that end behind from, the document aside, and the place of each, in the order of places.
func (d document) nodes(from int) iter.Seq2[int, api.Node] {
	return func(yield func(int, api.Node) bool) {
		var tell func(p part) bool
		tell = func(p part) bool {
			for _, kid := range d.kids(p) {
				if kid.to <= from {
					continue
				}
				if !yield(kid.from, kid.node) || !tell(kid) {
					return false
				}
			}
			return true
		}
		tell(d.top)
	}
}

// way answers the nodes that place lies in, from the document down.
func (d document) way(place int) []part {
	return d.down([]part{d.top}, place)
}

// ways answers the nodes that a and b both lie in, and the ways to each of them, which begin with these.
func (d document) ways(a, b int) (both, first, last []part) {
	both = []part{d.top}
	for {
		kid, ok := d.inner(both[len(both)-1], a)
		if !ok || !kid.around(b) {
			break
		}
		both = append(both, kid)
	}
	// Without room behind what they share, neither way is written over by the other one.
	both = both[:len(both):len(both)]
	return both, d.down(both, a), d.down(both, b)
}

// down answers way, and behind it the nodes within its last one that place lies in, too.
func (d document) down(way []part, place int) []part {
	for {
		kid, ok := d.inner(way[len(way)-1], place)
		if !ok {
			return way
		}
		way = append(way, kid)
	}
}

// inner answers the Kid of p, no text, that place lies in.
func (d document) inner(p part, place int) (part, bool) {
	for _, kid := range d.kids(p) {
		if kid.around(place) && kid.node.Type != text {
			return kid, true
		}
	}
	return part{}, false
}

// spot answers what there is to tell of p, which place lies in.
func (d document) spot(p part, place int) api.Spot {
	start, _ := p.within()
	spot := api.Spot{Type: p.node.Type, Start: start}
	for i, kid := range d.kids(p) {
		if kid.to > place {
			spot.Inside = kid.around(place) && kid.node.Type == text
			break
		}
		spot.Index = i + 1
	}
	return spot
}
