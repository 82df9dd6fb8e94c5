package rebase

import (
	"slices"

	"copydesk/api"
	"copydesk/maps"
	"copydesk/step"
	"copydesk/trail"
)

// number tells which one of one's own a step is.
type number int

// undone answers the place that the map of what undid this one has in the chain of the one with the number i.
func (n number) undone(i int) int {
	return i - 1 - int(n)
}

// remade is a step of one's own as it was done anew.
type remade struct {
	api.Step
	number
}

// inOrder tells whether anew tells of steps ahead of the one with the number i, each behind the last one.
func inOrder(anew []api.Anew, i int) bool {
	least := 0
	for _, a := range anew {
		if a.Own < least || a.Own >= i {
			return false
		}
		least = a.Own + 1
	}
	return true
}

// chain answers the one of the step behind ahead: the maps of what undid ahead, of others, and of what was done again, with the Mirrors by which what ahead put in is found in what was done again.
func chain(ahead, others []api.Step, again []remade) api.Chain {
	c := api.Chain{Maps: joined(backs(ahead), trail.Chain(others).Maps, news(again))}
	for k, r := range again {
		p := api.Mirror{First: r.undone(len(ahead)), Second: len(ahead) + len(others) + k}
		if isPair(c.Maps[p.First], c.Maps[p.Second]) {
			c.Mirrors = append(c.Mirrors, p)
		}
	}
	return c
}

// joined are lists of maps, one behind the other.
func joined(lists ...[][]api.Range) [][]api.Range {
	var all [][]api.Range
	for _, l := range lists {
		all = append(all, l...)
	}
	return all
}

// backs are the maps of what undid l, the last one's first.
func backs(l []api.Step) [][]api.Range {
	var all [][]api.Range
	for _, t := range slices.Backward(l) {
		all = append(all, maps.Turn(step.Map(t)))
	}
	return all
}

// news are the maps of what was done again.
func news(again []remade) [][]api.Range {
	var all [][]api.Range
	for _, r := range again {
		all = append(all, step.Map(r.Step))
	}
	return all
}

// isPair tells whether second brings back, Range by Range, as much as first takes away: only then a chain may have them as a pair.
func isPair(first, second []api.Range) bool {
	return slices.EqualFunc(first, second, func(taken, brought api.Range) bool { return brought.New == taken.Old })
}
