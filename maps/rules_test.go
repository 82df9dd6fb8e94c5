package maps_test

import (
	"slices"
	"testing"

	"copydesk/api"
	"copydesk/maps"
)

// What is handed in, and what is answered (Rules, 2, 4, 6).

// roomy is l with more behind it that none of it may tell.
func roomy[T any](l []T, more ...T) []T {
	return append(append(make([]T, 0, len(l)+len(more)), l...), more...)[:len(l)]
}

func spacious(m []api.Range) []api.Range {
	return roomy(m, api.Range{At: -1, Old: -1, New: -1}, api.Range{At: 0, Old: 9, New: 9})
}

func spaciousChain(c api.Chain) api.Chain {
	for i := range c.Maps {
		c.Maps[i] = spacious(c.Maps[i])
	}
	c.Maps = roomy(c.Maps, ranges("-1,-1,-1"), ranges("0,0,1"))
	c.Mirrors = roomy(c.Mirrors, api.Mirror{First: 0, Second: 0}, api.Mirror{First: -1, Second: 99})
	return c
}

// full is m as long as its room is.
func full[T any](m []T) []T {
	return m[:cap(m)]
}

// copied is all that c has, its spare room too.
func copied(c api.Chain) (l [][]api.Range, mirrors []api.Mirror) {
	for _, m := range full(c.Maps) {
		l = append(l, slices.Clone(full(m)))
	}
	return l, slices.Clone(full(c.Mirrors))
}

func allCalls(m []api.Range) {
	maps.Check(m)
	maps.Turn(m)
	maps.Delta(m)
	for place := -1; place < 20; place++ {
		maps.Go(m, place, place%2)
		maps.Touches(m, place, place+2)
	}
}

func TestWhatIsHandedInStaysAsItWas(t *testing.T) {
	l := []string{"", "-1,-1,-1", "0,0,0"}
	for _, x := range lines {
		l = append(l, x.m)
	}
	for _, s := range l {
		m := spacious(ranges(s))
		before := slices.Clone(full(m))
		allCalls(m)
		if !slices.Equal(full(m), before) {
			t.Errorf("%s came to %s", told(before), told(full(m)))
		}
	}
	l = []string{"", " / ; 0~0", "0,0,0 / 1,1,1", "2,3,0 / 2,0,3 ; 0~1 0~1"}
	for _, x := range chainLines {
		l = append(l, x.c)
	}
	for _, s := range l {
		c := spaciousChain(chain(s))
		before, mirrors := copied(c)
		maps.CheckChain(c)
		for place := range 12 {
			maps.Through(c, place, -1)
			maps.Through(c, place, 0)
		}
		after, others := copied(c)
		if !same(before, after) || !same(mirrors, others) {
			t.Errorf("%s came to %v", s, after)
		}
	}
}

// Spare room is not read: answers are as without it.
func TestSpareRoomTellsNothing(t *testing.T) {
	for _, x := range lines {
		goIs(t, spacious(ranges(x.m)), x.place, -1, moved(x.ahead))
		goIs(t, spacious(ranges(x.m)), x.place, 0, moved(x.behind))
		turnIs(t, spacious(ranges(x.m)), turnByWordsOf(x.m))
	}
	for _, x := range chainLines {
		throughIs(t, spaciousChain(chain(x.c)), x.place, -1, moved(x.ahead))
		throughIs(t, spaciousChain(chain(x.c)), x.place, 0, moved(x.behind))
	}
	for _, x := range maybes {
		checkIs(t, spacious(ranges(x.m)), x.e)
	}
	checkIs(t, roomy(times(api.MaxRanges), times(3)...), ok)
	c := many(api.MaxChain)
	c.Maps = roomy(c.Maps, times(1))
	chainIs(t, c, ok)
}

// turnByWordsOf is what Turn answers of ranges(s), handed in without spare room.
func turnByWordsOf(s string) []api.Range {
	return maps.Turn(slices.Clip(ranges(s)))
}

func TestTurnIsNewMemory(t *testing.T) {
	for _, s := range []string{"5,2,2", "2,3,1 9,0,2", "0,1,1 2,1,1 4,1,1 6,1,1 8,1,1"} {
		m := spacious(ranges(s))
		before := slices.Clone(full(m))
		a, b := maps.Turn(m), maps.Turn(m)
		want := slices.Clone(b)
		for i := range full(a) {
			full(a)[i] = api.Range{At: 7, Old: 7, New: 7}
		}
		if !slices.Equal(full(m), before) || !slices.Equal(b, want) {
			t.Errorf("what Turn of %s answers shares memory", s)
		}
		for i := range full(m) {
			full(m)[i] = api.Range{At: 8, Old: 8, New: 8}
		}
		if !slices.Equal(b, want) {
			t.Errorf("what Turn of %s answered changed when that did", s)
		}
	}
}

// A list that is nil and one that is empty are the same.
func TestNilAndEmptyAreTheSame(t *testing.T) {
	for _, m := range [][]api.Range{nil, {}} {
		checkIs(t, m, ok)
		deltaIs(t, m, 0)
		touchesIs(t, m, 0, 9, false)
		goIs(t, m, 3, 0, moved("3"))
		if len(maps.Turn(m)) != 0 {
			t.Error("Turn of no Range is one")
		}
		for _, maps := range [][][]api.Range{nil, {}, {m}, {m, nil}, {{}, m}} {
			for _, mirrors := range [][]api.Mirror{nil, {}} {
				c := api.Chain{Maps: maps, Mirrors: mirrors}
				chainIs(t, c, ok)
				throughIs(t, c, 3, 0, moved("3"))
			}
		}
		chainIs(t, api.Chain{Maps: [][]api.Range{m, nil, {}}, Mirrors: []api.Mirror{{First: 0, Second: 2}}}, ok)
	}
}

// What is asked again is answered the same.
func TestAskedAgain(t *testing.T) {
	for _, x := range chainLines {
		c := chain(x.c)
		for range 3 {
			throughIs(t, c, x.place, -1, moved(x.ahead))
			throughIs(t, c, x.place, 1, moved(x.behind))
		}
	}
}
