package maps_test

import (
	"slices"
	"testing"

	"copydesk/api"
	"copydesk/maps"
)

// P10.3: what follows, of all small maps that may be, at all places, and of some great ones.

func someMaps() [][]api.Range {
	all := smalls(4, 2)
	all = append(all, times(api.MaxRanges), maps.Turn(times(api.MaxRanges)))
	for _, x := range maybes {
		m := ranges(x.m)
		if maps.Check(m) == ok && maps.Check(maps.Turn(m)) == ok {
			all = append(all, m)
		}
	}
	return all
}

// somePlaces are all small ones, and those about the greatest.
func somePlaces() []int {
	var l []int
	for p := range 14 {
		l = append(l, p)
	}
	for p := most - 4; p <= most; p++ {
		l = append(l, p)
	}
	return append(l, 125, 126, 127, 128, 129, 188, 189, 190, 191, 192, 193)
}

// outside tells whether place stands neither in nor at a Range of m.
func outside(m []api.Range, place int) bool {
	return !slices.ContainsFunc(m, func(r api.Range) bool { return slices.Contains(placesOf(r), place) })
}

// inside is outside's contrary, quickly, for ranges of many tokens.
func inside(m []api.Range, place int) bool {
	return slices.ContainsFunc(m, func(r api.Range) bool { return r.At <= place && place <= r.At+r.Old })
}

func TestTurnedRoundTwiceItIsItself(t *testing.T) {
	for _, m := range someMaps() {
		turnIs(t, maps.Turn(m), m)
		checkIs(t, maps.Turn(m), ok)
		deltaIs(t, maps.Turn(m), -maps.Delta(m))
	}
}

func TestOutsideItGoesThereAndBack(t *testing.T) {
	for _, m := range someMaps() {
		for _, place := range somePlaces() {
			if inside(m, place) {
				continue
			}
			for _, lean := range []int{-1, 0} {
				there := maps.Go(m, place, lean)
				if there != (api.Moved{Place: there.Place}) {
					t.Errorf("%s from %d outside: %+v", told(m), place, there)
				}
				if there.Place <= most {
					goIs(t, maps.Turn(m), there.Place, lean, api.Moved{Place: place})
					goIs(t, maps.Turn(m), there.Place, -1-lean, api.Moved{Place: place})
				}
				throughIs(t, api.Chain{Maps: [][]api.Range{m, maps.Turn(m)}}, place, lean, api.Moved{Place: place})
			}
		}
	}
}

func TestThroughItsMirrorItComesToItself(t *testing.T) {
	for _, m := range someMaps() {
		c := mirrored(m)
		chainIs(t, c, ok)
		for _, place := range somePlaces() {
			for _, lean := range []int{-1, 0, 1} {
				// What the map put in, where it took nothing away, goes again: on the side that it leans to.
				if got := maps.Through(c, place, lean); got.Place != place || got.Across || got.Lost && got.Ahead == got.Behind {
					t.Errorf("%s from %d leaning %d: %+v", toldChain(c), place, lean, got)
				}
				if i := slices.IndexFunc(m, func(r api.Range) bool { return r.Old == 0 && r.At == place }); i < 0 {
					throughIs(t, c, place, lean, api.Moved{Place: place})
				}
			}
		}
	}
}

func TestPlacesKeepTheirOrder(t *testing.T) {
	l := somePlaces()
	slices.Sort(l)
	l = slices.Compact(l)
	for _, m := range someMaps() {
		for _, lean := range []int{-1, 0} {
			last := -1
			for _, place := range l {
				got := maps.Go(m, place, lean).Place
				if got < last {
					t.Errorf("%s leaning %d: %d comes to %d, less than %d", told(m), lean, place, got, last)
				}
				last = got
			}
		}
		for _, place := range l {
			if a, b := maps.Go(m, place, -1), maps.Go(m, place, 0); a.Place > b.Place || a.Ahead != b.Ahead || a.Behind != b.Behind {
				t.Errorf("%s from %d: leaning ahead %+v, behind %+v", told(m), place, a, b)
			}
		}
	}
}

// A place behind all Ranges moves by Delta; a place is moved, or goes, only where Touches tells of the places up to it.
func TestDeltaAndTouchesTellOfGo(t *testing.T) {
	for _, m := range someMaps() {
		end := 0
		for _, r := range m {
			end = r.At + r.Old
		}
		if end < most && len(m) > 0 {
			goIs(t, m, end+1, 0, api.Moved{Place: end + 1 + maps.Delta(m)})
		}
		for _, place := range somePlaces() {
			touchesIs(t, m, place, place, inside(m, place))
			if !maps.Touches(m, 0, place) {
				goIs(t, m, place, 0, api.Moved{Place: place})
			}
		}
	}
}
