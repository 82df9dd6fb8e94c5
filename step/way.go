package step

import (
	"copydesk/api"
	"copydesk/maps"
)

// How a place leans on its way through a chain.
const (
	toAhead  = -1
	toBehind = 1
)

// Where a change of each kind takes tokens away, and puts others.

func (c change) still() []api.Range {
	return nil
}

func (c change) whole() []api.Range {
	return told(api.Range{At: c.From, Old: c.To - c.From, New: len(c.Mid)})
}

func (c change) around() []api.Range {
	// Where nothing stays between, both sides stand at one place, and a map's Ranges may not.
	if c.Gap == c.End {
		return c.whole()
	}
	ahead := api.Range{At: c.From, Old: c.Gap - c.From, New: c.Insert}
	behind := api.Range{At: c.End, Old: c.To - c.End, New: len(c.Mid) - c.Insert}
	return told(ahead, behind)
}

// told are all of these ranges that tell something.
func told(ranges ...api.Range) []api.Range {
	var l []api.Range
	for _, r := range ranges {
		if r.Old != 0 || r.New != 0 {
			l = append(l, r)
		}
	}
	return l
}

// way is a change on its way through a chain.
type way struct {
	change
	chain api.Chain
}

// ends takes From and To through the chain, and answers how they went.
func (w *way) ends() (from, to api.Moved) {
	from = maps.Through(w.chain, w.From, toBehind)
	to = maps.Through(w.chain, w.To, toAhead)
	w.From, w.To = from.Place, max(from.Place, to.Place)
	return from, to
}

func (w *way) put() bool {
	from, to := w.ends()
	return !from.Across || !to.Across
}

func (w *way) wrap() bool {
	gap := maps.Through(w.chain, w.Gap, toAhead)
	end := maps.Through(w.chain, w.End, toBehind)
	w.Gap, w.End = gap.Place, end.Place
	return w.put() && w.From <= w.Gap && w.Gap <= w.End && w.End <= w.To
}

func (w *way) mark() bool {
	wide := w.From < w.To
	from, to := w.ends()
	// What was at one place from the beginning has nothing to lose but that place.
	return !(from.Lost && to.Lost) && (!wide || w.From < w.To)
}

func (w *way) attr() bool {
	from := maps.Through(w.chain, w.From, toBehind)
	w.From = from.Place
	return !from.Behind
}

func (w *way) swap() bool {
	return w.put() && w.To == w.From+len(w.Mid)
}
