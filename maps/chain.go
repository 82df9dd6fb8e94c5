package maps

import (
	"copydesk/api"
)

// CheckChain answers whether c may be: the first error of its maps, ErrLong of too many of these, ErrArg of Mirrors that are none.
func CheckChain(c api.Chain) api.Errno {
	for _, m := range c.Maps {
		if e := Check(m); e != api.OK {
			return e
		}
	}
	if len(c.Maps) > api.MaxChain {
		return api.ErrLong
	}
	paired := make([]bool, len(c.Maps))
	for _, p := range c.Mirrors {
		if p.First < 0 || p.First >= p.Second || p.Second >= len(c.Maps) {
			return api.ErrArg
		}
		if paired[p.First] || paired[p.Second] || !bringsBack(c.Maps[p.First], c.Maps[p.Second]) {
			return api.ErrArg
		}
		paired[p.First], paired[p.Second] = true, true
	}
	return api.OK
}

// Through answers where place comes to through c, leaning ahead where lean is below 0, and how it went; place as it is, where it or c may not be.
func Through(c api.Chain, place, lean int) api.Moved {
	var w went
	if !isPlace(place) || CheckChain(c) != api.OK {
		return w.moved(place)
	}
	second := seconds(c)
	for i := 0; i < len(c.Maps); i++ {
		m := c.Maps[i]
		k, within := around(m, place)
		if !within || m[k].Old == 0 || second[i] == 0 {
			place = w.through(m, place, lean)
			continue
		}
		// What it stands in is gone till the second map brings it back, so that nothing between can have moved the place within it.
		place = begins(c.Maps[second[i]], k) + place - m[k].At
		i = second[i]
	}
	return w.moved(place)
}

// bringsBack tells whether b brings back, Range by Range, as much as a takes away.
func bringsBack(a, b []api.Range) bool {
	if len(a) != len(b) {
		return false
	}
	for i, r := range a {
		if b[i].New != r.Old {
			return false
		}
	}
	return true
}

// seconds answers, of each map of c that is the first of a pair, the place of the second one; of all others 0, which is no second one's.
func seconds(c api.Chain) []int {
	all := make([]int, len(c.Maps))
	for _, p := range c.Mirrors {
		all[p.First] = p.Second
	}
	return all
}
