package maps_test

import (
	"math/rand"
	"testing"

	"copydesk/api"
	"copydesk/maps"
)

// P10.1, P10.2: all small maps and chains, and some by chance, held against the words.

func TestAllSmallMaps(t *testing.T) {
	t.Parallel()
	for _, m := range smalls(5, 3) {
		checkIs(t, m, ok)
		turnIs(t, m, turnByWords(m))
		n := lengthOf(m)
		deltaIs(t, m, sides(m, n)[n].ahead-n)
		for place := range n + 1 {
			for _, lean := range []int{-1, 0, 1} {
				goIs(t, m, place, lean, goByWords(m, place, lean))
			}
		}
		for from := -1; from <= n; from++ {
			for to := from; to <= n; to++ {
				touchesIs(t, m, from, to, touchesByWords(m, from, to))
			}
		}
	}
}

// touchesByWords tells whether one of the places from from to to is one that a Range of m stands at or in.
func touchesByWords(m []api.Range, from, to int) bool {
	for place := from; place <= to; place++ {
		if !outside(m, place) {
			return true
		}
	}
	return false
}

// asByWords fails unless c is what the words tell, at each place up to one.
func asByWords(t *testing.T, c api.Chain, to int) {
	t.Helper()
	if !chainByWords(c) {
		chainIs(t, c, arg)
		return
	}
	chainIs(t, c, ok)
	for place := range to + 1 {
		throughIs(t, c, place, -1, throughByWords(c, 0, place, -1))
		throughIs(t, c, place, 0, throughByWords(c, 0, place, 0))
	}
}

// All chains of two maps, of two Ranges each at most, with and without a mirror.
func TestAllPairsOfSmallMaps(t *testing.T) {
	t.Parallel()
	all := smalls(3, 1)
	for _, a := range all {
		for _, b := range all {
			c := api.Chain{Maps: [][]api.Range{a, b}}
			asByWords(t, c, 6)
			c.Mirrors = []api.Mirror{{First: 0, Second: 1}}
			asByWords(t, c, 6)
		}
	}
}

// All chains of three maps of one Range, with each mirror.
func TestAllTriplesOfSmallMaps(t *testing.T) {
	t.Parallel()
	var all [][]api.Range
	for _, m := range smalls(2, 2) {
		if len(m) == 1 {
			all = append(all, m)
		}
	}
	for _, a := range all {
		for _, b := range all {
			for _, m := range all {
				c := api.Chain{Maps: [][]api.Range{a, b, m}}
				asByWords(t, c, 5)
				for _, p := range []api.Mirror{{First: 0, Second: 1}, {First: 1, Second: 2}, {First: 0, Second: 2}} {
					c.Mirrors = []api.Mirror{p}
					asByWords(t, c, 5)
				}
			}
		}
	}
}

// mapBy is a map that may be, by chance.
func mapBy(r *rand.Rand) []api.Range {
	var m []api.Range
	for at := r.Intn(4); r.Intn(5) > 0 && len(m) < 6; {
		one := api.Range{At: at, Old: r.Intn(4), New: r.Intn(4)}
		if one.Old+one.New > 0 {
			m = append(m, one)
			at += one.Old + 1 + r.Intn(3)
		}
	}
	return m
}

// mirrorOf is a map that brings back what m takes away, at places of its own.
func mirrorOf(r *rand.Rand, m []api.Range) []api.Range {
	l := maps.Turn(m)
	by := 0
	for i := range l {
		if r.Intn(3) == 0 {
			l[i].Old += r.Intn(2)
		}
		if l[i].Old+l[i].New == 0 {
			l[i].Old = 1
		}
		if i > 0 {
			by = max(by, l[i-1].At+l[i-1].Old+1-l[i].At)
		}
		by += r.Intn(2)
		l[i].At += by
	}
	return l
}

// chainBy is a chain by chance: most of its Mirrors are as told.
func chainBy(r *rand.Rand) api.Chain {
	var c api.Chain
	var open []int
	for range r.Intn(9) {
		if i := len(open) - 1; i >= 0 && r.Intn(2) == 0 {
			k := r.Intn(i + 1)
			c.Mirrors = append(c.Mirrors, api.Mirror{First: open[k], Second: len(c.Maps)})
			c.Maps = append(c.Maps, mirrorOf(r, c.Maps[open[k]]))
			open = append(open[:k:k], open[k+1:]...)
			continue
		}
		open = append(open, len(c.Maps))
		c.Maps = append(c.Maps, mapBy(r))
	}
	if r.Intn(10) == 0 {
		c.Mirrors = append(c.Mirrors, api.Mirror{First: r.Intn(9) - 1, Second: r.Intn(9)})
	}
	r.Shuffle(len(c.Mirrors), func(i, j int) { c.Mirrors[i], c.Mirrors[j] = c.Mirrors[j], c.Mirrors[i] })
	return c
}

func TestChainsByChance(t *testing.T) {
	t.Parallel()
	r := rand.New(rand.NewSource(10))
	met := 0
	for range 30000 {
		c := chainBy(r)
		if chainByWords(c) {
			met++
		}
		asByWords(t, c, 16)
	}
	if met < 20000 {
		t.Errorf("only %d chains may be", met)
	}
}

// readChain is a chain as bytes tell it, and a place and a lean.
func readChain(b []byte) (c api.Chain, place, lean int) {
	next := func() int {
		if len(b) == 0 {
			return 0
		}
		n := int(int8(b[0]))
		b = b[1:]
		if n >= 120 || n <= -120 {
			return n % 4 * most / 2
		}
		return n
	}
	place, lean = next(), next()
	for range next() % 12 {
		var m []api.Range
		for range next() % 4 {
			m = append(m, api.Range{At: next(), Old: next(), New: next()})
		}
		c.Maps = append(c.Maps, m)
	}
	for len(b) > 0 {
		c.Mirrors = append(c.Mirrors, api.Mirror{First: next(), Second: next()})
	}
	return c, place, lean
}

func FuzzThrough(f *testing.F) {
	f.Add([]byte{3, 255, 2, 1, 2, 3, 0, 1, 2, 0, 3, 0, 1})
	f.Add([]byte{3, 1, 3, 1, 2, 3, 0, 1, 0, 0, 2, 1, 4, 0, 3, 0, 2})
	f.Add([]byte{127, 0, 1, 2, 0, 121, 121, 126, 0, 1})
	f.Fuzz(func(t *testing.T, b []byte) {
		c, place, lean := readChain(b)
		want := ok
		for _, m := range c.Maps {
			if !mayBeByWords(m) {
				want = arg
			}
		}
		if want == ok && !chainByWords(c) {
			want = arg
		}
		chainIs(t, c, want)
		if want != ok || place < 0 || place > most {
			throughIs(t, c, place, lean, api.Moved{Place: place})
			return
		}
		got := maps.Through(c, place, lean)
		if got.Place < 0 || got.Across && !(got.Ahead && got.Behind) || got.Lost && !got.Ahead && !got.Behind {
			t.Errorf("%s from %d: %+v", toldChain(c), place, got)
		}
		// Gone over token by token, great ones take too long.
		for _, m := range c.Maps {
			if lengthOf(m) > 2000 {
				return
			}
		}
		throughIs(t, c, place, lean, throughByWords(c, 0, place, lean))
	})
}
