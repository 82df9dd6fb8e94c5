package rebase_test

import (
	"reflect"
	"slices"
	"strings"
	"testing"

	"copydesk/api"
	"copydesk/maps"
	"copydesk/rebase"
	"copydesk/step"
	"copydesk/trail"
)

const (
	ok    = api.OK
	arg   = api.ErrArg
	long  = api.ErrLong
	none  = api.ErrNone
	place = api.ErrPlace
	shape = api.ErrShape
)

var name17 = strings.Repeat("n", 17)

// alike tells whether all within both is the same, an empty list and none being one.
func alike[T any](a, b T) bool {
	return sameValue(reflect.ValueOf(a), reflect.ValueOf(b))
}

func sameValue(a, b reflect.Value) bool {
	switch a.Kind() {
	case reflect.Slice:
		if a.Len() != b.Len() {
			return false
		}
		for i := range a.Len() {
			if !sameValue(a.Index(i), b.Index(i)) {
				return false
			}
		}
		return true
	case reflect.Struct:
		for i := range a.NumField() {
			if !sameValue(a.Field(i), b.Field(i)) {
				return false
			}
		}
		return true
	}
	return a.Interface() == b.Interface()
}

// What follows goes by the words of the document, one thing behind the other, and asks the calls of the layers below.

// link is a map of a chain: of which of one's own it is (-1: of none), and whether it is the map of what undid that.
type link struct {
	own  int
	back bool
	m    []api.Range
}

// linked is the chain of these, with all Mirrors that may be.
func linked(links []link) api.Chain {
	var c api.Chain
	for _, l := range links {
		c.Maps = append(c.Maps, l.m)
	}
	for second, l := range links {
		if l.own < 0 || l.back {
			continue
		}
		first := slices.IndexFunc(links, func(u link) bool { return u.back && u.own == l.own })
		pair := len(links[first].m) == len(l.m)
		for i := 0; pair && i < len(l.m); i++ {
			pair = l.m[i].New == links[first].m[i].Old
		}
		if pair {
			c.Mirrors = append(c.Mirrors, api.Mirror{First: first, Second: second})
		}
	}
	return c
}

// chainByWords is the chain of own[i], back answering the map of what undid one of own.
func chainByWords(own, others []api.Step, anew []api.Anew, i int, back func(k int) []api.Range) api.Chain {
	last := -1
	for _, a := range anew {
		if a.Own <= last || a.Own >= i {
			return api.Chain{}
		}
		last = a.Own
	}
	if i < 0 || i >= len(own) {
		return api.Chain{}
	}
	var links []link
	for k := i - 1; k >= 0; k-- {
		links = append(links, link{k, true, back(k)})
	}
	for _, t := range others {
		links = append(links, link{-1, false, step.Map(t)})
	}
	for _, a := range anew {
		links = append(links, link{a.Own, false, step.Map(a.Step)})
	}
	return linked(links)
}

// turned answers the maps of what would undo steps of l, whether these may be or not.
func turned(l []api.Step) func(k int) []api.Range {
	return func(k int) []api.Range { return maps.Turn(step.Map(l[k])) }
}

// undone answers the maps of what undoes steps of l, that can be walked from n.
func undone(s api.Schema, n api.Node, l []api.Step) func(k int) []api.Range {
	backs, _ := trail.Undo(s, n, l)
	return func(k int) []api.Range { return step.Map(backs[len(l)-1-k]) }
}

// Why one of one's own is dropped.
const (
	isKept = iota
	isGone
	hasError
	isNothing
)

// rebaseByWords is Rebase of these, and what became of each of own.
func rebaseByWords(s api.Schema, n api.Node, own, others []api.Step) (r api.Rebased, became []int, e api.Errno) {
	if _, _, e := trail.Walk(s, n, others); e != ok {
		return r, nil, e
	}
	behind, _, e := trail.Walk(s, n, own)
	if e != ok {
		return r, nil, e
	}
	if len(own)+len(own)+len(others) > 256 {
		return r, nil, long
	}
	backs, _ := trail.Undo(s, n, own)
	again, _, _ := trail.Walk(s, behind, backs)
	r.Doc, _, _ = trail.Walk(s, again, others)
	var anew []api.Anew
	back := undone(s, n, own)
	for i, t := range own {
		now, can := step.Move(t, chainByWords(own, others, anew, i, back))
		next, e := step.Do(s, r.Doc, now)
		why := isKept
		switch {
		case !can:
			why = isGone
		case e != ok:
			why = hasError
		case now.Kind == 1 && len(now.Mid) == 0 && now.From == now.To && t.From != t.To:
			why = isNothing
		}
		became = append(became, why)
		if why != isKept {
			r.Dropped = append(r.Dropped, i)
			continue
		}
		r.Doc, r.Steps, r.Kept = next, append(r.Steps, now), append(r.Kept, i)
		anew = append(anew, api.Anew{Own: i, Step: now})
	}
	return r, became, ok
}

func commuteByWords(s api.Schema, n api.Node, a, b api.Step) (x, y api.Step, can bool) {
	ofA, e := step.Do(s, n, a)
	ofB, f := step.Do(s, n, b)
	if e != ok || f != ok {
		return
	}
	nowA, left := step.Move(a, api.Chain{Maps: [][]api.Range{step.Map(b)}})
	nowB, leftToo := step.Move(b, api.Chain{Maps: [][]api.Range{step.Map(a)}})
	if !left || !leftToo {
		return
	}
	one, e := step.Do(s, ofA, nowB)
	other, f := step.Do(s, ofB, nowA)
	if e != ok || f != ok || !alike(one, other) {
		return
	}
	return nowA, nowB, true
}

// What follows asks the calls, and fails unless they answer that, and nothing beside an error.

func rebaseIs(t testing.TB, s api.Schema, n api.Node, own, others []api.Step, want api.Rebased, e api.Errno) {
	t.Helper()
	if r, f := rebase.Rebase(s, n, own, others); f != e || !alike(r, want) {
		t.Errorf("Rebase from %s of %s over %s: %s, error %d, want %s, %d", told(n), shownSteps(own), shownSteps(others), shownRebased(r), f, shownRebased(want), e)
	}
	if r, _, f := rebaseByWords(s, n, own, others); f != e || !alike(r, want) {
		t.Errorf("Rebase from %s of %s over %s: by the words %s, error %d, want %s, %d", told(n), shownSteps(own), shownSteps(others), shownRebased(r), f, shownRebased(want), e)
	}
}

func chainIs(t testing.TB, own, others []api.Step, anew []api.Anew, i int, want api.Chain) {
	t.Helper()
	if c := rebase.Chain(own, others, anew, i); !alike(c, want) {
		t.Errorf("Chain of %s over %s, %v, %d: %v, want %v", shownSteps(own), shownSteps(others), anew, i, c, want)
	}
	if c := chainByWords(own, others, anew, i, turned(own)); !alike(c, want) {
		t.Errorf("Chain of %s over %s, %v, %d: by the words %v, want %v", shownSteps(own), shownSteps(others), anew, i, c, want)
	}
}

func commuteIs(t testing.TB, s api.Schema, n api.Node, a, b, x, y api.Step, can bool) {
	t.Helper()
	if p, q, k := rebase.Commute(s, n, a, b); k != can || !alike(p, x) || !alike(q, y) {
		t.Errorf("Commute by %s of %s and %s: %s, %s, %t, want %s, %s, %t", told(n), shownStep(a), shownStep(b), shownStep(p), shownStep(q), k, shownStep(x), shownStep(y), can)
	}
	if p, q, k := commuteByWords(s, n, a, b); k != can || !alike(p, x) || !alike(q, y) {
		t.Errorf("Commute by %s of %s and %s: by the words %s, %s, %t, want %s, %s, %t", told(n), shownStep(a), shownStep(b), shownStep(p), shownStep(q), k, shownStep(x), shownStep(y), can)
	}
	if p, q, k := rebase.Commute(s, n, b, a); k != can || !alike(p, y) || !alike(q, x) {
		t.Errorf("Commute by %s of %s and %s: %s, %s, %t, and the other way round %t", told(n), shownStep(b), shownStep(a), shownStep(p), shownStep(q), k, can)
	}
}

// follows fails unless what follows holds of r, which is what own, done from n on, is rebased to over others (P13.3).
func follows(t testing.TB, s api.Schema, n api.Node, own, others []api.Step, r api.Rebased) {
	t.Helper()
	if walked, _, e := trail.Walk(s, n, slices.Concat(others, r.Steps)); e != ok || !alike(walked, r.Doc) {
		t.Errorf("%s and %s from %s: %s, error %d, Doc is %s", shownSteps(others), shownSteps(r.Steps), told(n), told(walked), e, told(r.Doc))
	}
	all := slices.Sorted(slices.Values(slices.Concat(r.Kept, r.Dropped)))
	for i, k := range all {
		if i != k || len(all) != len(own) || len(r.Kept) != len(r.Steps) || !slices.IsSorted(r.Kept) || !slices.IsSorted(r.Dropped) {
			t.Errorf("of %d kept %v, dropped %v", len(own), r.Kept, r.Dropped)
		}
	}
	mine, done, _ := trail.Walk(s, n, own)
	still := api.Rebased{Doc: mine, Steps: own}
	for i := range done {
		still.Kept = append(still.Kept, i)
	}
	rebaseIs(t, s, n, own, nil, still, ok)
	theirs, _, _ := trail.Walk(s, n, others)
	rebaseIs(t, s, n, nil, others, api.Rebased{Doc: theirs}, ok)
}

// chains fails unless each of own is moved through the chain that the words tell, what undid it being done indeed.
func chains(t testing.TB, s api.Schema, n api.Node, own, others []api.Step, r api.Rebased) {
	t.Helper()
	back := undone(s, n, own)
	for i := -1; i <= len(own); i++ {
		var anew []api.Anew
		for k, one := range r.Kept {
			if one < i {
				anew = append(anew, api.Anew{Own: one, Step: r.Steps[k]})
			}
		}
		want := chainByWords(own, others, anew, i, back)
		chainIs(t, own, others, anew, i, want)
		if e := maps.CheckChain(want); e != ok {
			t.Errorf("the chain of %d of %s over %s: error %d", i, shownSteps(own), shownSteps(others), e)
		}
	}
}

// asTold fails unless all that is told of own and others, done from n, is what the words tell, and what follows holds. It answers what became of each of own, and Rebase's error.
func asTold(t testing.TB, s api.Schema, n api.Node, own, others []api.Step) ([]int, api.Errno) {
	t.Helper()
	want, became, e := rebaseByWords(s, n, own, others)
	rebaseIs(t, s, n, own, others, want, e)
	if e == ok {
		follows(t, s, n, own, others, want)
		chains(t, s, n, own, others, want)
	}
	if len(own) > 0 && len(others) > 0 {
		x, y, can := commuteByWords(s, n, own[0], others[0])
		commuteIs(t, s, n, own[0], others[0], x, y, can)
	}
	return became, e
}
