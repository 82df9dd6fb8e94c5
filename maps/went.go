package maps

import (
	"copydesk/api"
)

// went tells how a place went so far: whether a map took what stood ahead of it, behind it, on both sides at once, on the one that it leans to.
type went struct {
	ahead, behind, across, lost bool
}

// through answers where place comes to through m, and puts to w how it went there.
func (w *went) through(m []api.Range, place, lean int) int {
	i, within := around(m, place)
	if !within {
		return place + growth(m[:i])
	}
	w.meet(place > m[i].At, place < end(m[i]), lean)
	if toEnd(m[i], place, lean) {
		return begins(m, i) + m[i].New
	}
	return begins(m, i)
}

// meet puts to w what one Range did: whether it took something ahead of the place, and behind it.
func (w *went) meet(ahead, behind bool, lean int) {
	w.ahead = w.ahead || ahead
	w.behind = w.behind || behind
	w.across = w.across || ahead && behind
	if lean < 0 {
		w.lost = w.lost || ahead
	} else {
		w.lost = w.lost || behind
	}
}

// moved answers that the place came to place, and went as w tells.
func (w *went) moved(place int) api.Moved {
	return api.Moved{Place: place, Ahead: w.ahead, Behind: w.behind, Across: w.across, Lost: w.lost}
}

// toEnd tells whether place, which stands in or at r, comes to the end of what came, and not to its beginning.
func toEnd(r api.Range, place, lean int) bool {
	switch {
	case r.Old == 0:
		return lean >= 0
	case place == r.At:
		return false
	case place == end(r):
		return true
	}
	return lean >= 0
}
