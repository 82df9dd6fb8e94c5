package rebase_test

import (
	"testing"

	"copydesk/api"
	"copydesk/rebase"
	"copydesk/row"
	"copydesk/step"
)

// P13.2: Commute and Same

func TestCommute(t *testing.T) {
	const heading = "doc(h[level=1]('a') p)"
	for _, c := range []struct {
		doc, a, b, x, y string // no x: they don't
	}{
		{pair, "put 1 2", "put 5 6", "put 1 2", "put 4 5"}, {pair, "put 1 1 'xy'", "put 6 6 'z'", "put 1 1 'xy'", "put 8 8 'z'"}, {pair, "put 1 1", "put 1 1", "put 1 1", "put 1 1"}, {pair, "put 1 1", "put 2 2 'x'", "put 1 1", "put 2 2 'x'"},
		// At one place the one that comes first stands ahead: it tells whether both put the same.
		{pair, "put 1 1 'x'", "put 1 1 'y'", "", ""}, {pair, "put 1 1 'x'", "put 1 1 'x'", "put 2 2 'x'", "put 2 2 'x'"}, {pair, "put 1 1 'x'", "put 1 1 'x'^em", "", ""}, {pair, "put 1 1 'x'", "put 1 1 'xx'", "put 3 3 'x'", "put 2 2 'xx'"}, {pair, "put 1 1 'xy'", "put 1 1 'x'", "", ""},
		// What both take away is nothing left to do, but a step still.
		{pair, "put 1 3", "put 1 3", "put 1 1", "put 1 1"}, {pair, "put 1 3", "put 1 2", "put 1 2", "put 1 1"}, {pair, "put 1 2", "put 2 3", "put 1 2", "put 1 2"}, {pair, "put 1 2 'x'", "put 2 3 'y'", "put 1 2 'x'", "put 2 3 'y'"}, {pair, "put 1 3 'x'", "put 1 3 'x'", "put 1 2 'x'", "put 1 2 'x'"}, {pair, "put 1 3 'x'", "put 1 3 'y'", "", ""}, {pair, "put 1 2 'x'", "put 2 3", "put 1 2 'x'", "put 2 3"},
		// One is gone behind the other.
		{pair, "put 1 3", "put 2 2 'x'", "", ""}, {pair, "put 0 4", "mark 1 2 em", "", ""}, {heading, "put 0 3", "attr 0 level=2", "", ""}, {pair, "wrap 0 0 7 7 1 (li )", "put 0 0 /hr", "", ""}, {pair, "swap 1 3 'ab'^em", "put 2 2 'z'", "", ""},
		// One can't be done to the document, or not behind the other.
		{pair, "put 1 1 'x'", "put 9 9 'y'", "", ""}, {pair, "put 1 4", "put 6 6 'x'", "", ""}, {pair, "put 2 1", "put 2 1", "", ""}, {pair, "mark 0 1 zz", "put 6 6 'x'", "", ""}, {pair, "attr 0 level=2", "put 6 6 'x'", "", ""}, {pair, "put 0 4", "put 4 7", "", ""}, {pair, "put 3 5", "wrap 4 4 7 7 1 (li )", "", ""}, {pair, "swap 1 2 'a'^em", "put 1 2 'z'", "", ""}, {pair, "swap 1 2 'a'^em", "put 1 1 'z'", "swap 2 3 'a'^em", "put 1 1 'z'"},
		// Marks and attributes.
		{pair, "mark 1 3 em", "mark 2 3 code", "mark 1 3 em", "mark 2 3 code"}, {pair, "mark 1 3 em", "bare 1 3 em", "", ""}, {pair, "mark 1 2 em", "bare 2 3 em", "mark 1 2 em", "bare 2 3 em"}, {pair, "mark 1 3 em", "put 2 2 'x'", "", ""}, {pair, "mark 1 3 em", "put 2 2 'x'^em", "mark 1 4 em", "put 2 2 'x'^em"}, {pair, "mark 1 3 em", "put 1 1 'x'", "mark 2 4 em", "put 1 1 'x'"}, {pair, "swap 1 2 'a'^em", "mark 1 2 em", "swap 1 2 'a'^em", "mark 1 2 em"}, {pair, "swap 1 2 'a'^em", "mark 1 2 code", "", ""}, {pair, "swap 1 2 'a'^em", "mark 2 3 em", "swap 1 2 'a'^em", "mark 2 3 em"},
		{heading, "attr 0 level=2", "attr 0 level=3", "", ""}, {heading, "attr 0 level=2", "attr 0 level=2", "attr 0 level=2", "attr 0 level=2"}, {heading, "attr 0 level=2", "put 0 0 (p )", "attr 2 level=2", "put 0 0 (p )"}, {heading, "attr 0 level=2", "put 1 1 'x'^em", "attr 0 level=2", "put 1 1 'x'^em"},
		{pair, "wrap 0 0 7 7 1 (li )", "put 1 1 'x'", "wrap 0 0 8 8 1 (li )", "put 2 2 'x'"}, {pair, "wrap 0 0 4 4 1 (li )", "wrap 4 4 7 7 1 (li )", "", ""}, {"doc(p hr p)", "wrap 0 0 2 2 1 (li )", "wrap 3 3 5 5 1 (li )", "wrap 0 0 2 2 1 (li )", "wrap 5 5 7 7 1 (li )"}, {pair, "wrap 0 0 7 7 1 (li )", "wrap 0 0 7 7 1 (li )", "", ""},
	} {
		if c.x == "" {
			commuteIs(t, pages(), tree(c.doc), change(c.a), change(c.b), api.Step{}, api.Step{}, false)
			continue
		}
		commuteIs(t, pages(), tree(c.doc), change(c.a), change(c.b), change(c.x), change(c.y), true)
	}
}

// Nothing commutes by a schema, or from a document, that may not be.
func TestCommuteByWhatMayNotBe(t *testing.T) {
	a, b := change("put 1 2"), change("put 5 6")
	for _, x := range badSchemas() {
		commuteIs(t, x.s, tree(pair), a, b, api.Step{}, api.Step{}, false)
	}
	for _, doc := range []string{"doc", "p", "doc(p('a' 'b') p('c'))", "doc(p('abc') zz p('d'))"} {
		commuteIs(t, pages(), tree(doc), a, b, api.Step{}, api.Step{}, false)
	}
	commuteIs(t, pages(), api.Node{}, api.Step{}, api.Step{}, api.Step{}, api.Step{}, false)
	commuteIs(t, books(), tree(pair), a, b, api.Step{}, api.Step{}, false)
}

// all are puts from any place to any, with each of these as Mid; marks and wraps likewise.
func all(length int, mids ...string) []api.Step {
	var l []api.Step
	for from := range length + 1 {
		for to := from; to <= length; to++ {
			for _, mid := range mids {
				l = append(l, api.Step{Kind: api.StepPut, From: from, To: to, Mid: tokens(mid)})
			}
			l = append(l, api.Step{Kind: api.StepMark, From: from, To: to, Mark: api.Mark{Type: "em"}})
			l = append(l, api.Step{Kind: api.StepBare, From: from, To: to, Mark: api.Mark{Type: "em"}})
			l = append(l, api.Step{Kind: api.StepWrap, From: from, Gap: from, End: to, To: to, Insert: 1, Mid: tokens("(note[by=] )")})
		}
	}
	return l
}

// All pairs of small steps: both ways come to one document, just if that is told, and each is rebased over the other as it commutes.
func TestCommuteOfAllSmall(t *testing.T) {
	t.Parallel()
	n := tree("doc('a'^em note[by=])")
	l, e := row.Of(letters(), n)
	if e != ok || len(l) != 3 {
		t.Fatal(len(l), e)
	}
	steps := all(3, "", "'x'")
	do, dont := 0, 0
	for i, a := range steps {
		for _, b := range steps[i:] {
			x, y, can := commuteByWords(letters(), n, a, b)
			commuteIs(t, letters(), n, a, b, x, y, can)
			if !can {
				dont++
				continue
			}
			do++
			overIs(t, letters(), n, b, a, y)
		}
	}
	if do < 200 || dont < 200 {
		t.Errorf("%d pairs that commute, %d that don't", do, dont)
	}
}

// overIs fails unless b alone is rebased over a as want, or as nothing, if it is nothing then.
func overIs(t testing.TB, s api.Schema, n api.Node, b, a, want api.Step) {
	t.Helper()
	nothing := func(t api.Step) bool { return t.Kind == api.StepPut && t.From == t.To && len(t.Mid) == 0 }
	behind, _ := step.Do(s, n, a)
	r := api.Rebased{Doc: behind, Dropped: []int{0}}
	if nothing(b) || !nothing(want) {
		both, _ := step.Do(s, behind, want)
		r = api.Rebased{Doc: both, Steps: []api.Step{want}, Kept: []int{0}}
	}
	rebaseIs(t, s, n, []api.Step{b}, []api.Step{a}, r, ok)
}

func TestSame(t *testing.T) {
	x, y := many("put 1 1 'x'"), many("put 1 1 'y'")
	l := []api.Rebased{
		{}, {Doc: tree(pair)}, {Doc: tree("doc(p('ab') p('d'))")}, {Doc: tree("doc(p('ab') p('c'^em))")}, {Steps: x}, {Steps: y}, {Steps: append(many("put 1 1 'x'"), y...)}, {Steps: append(many("put 1 1 'y'"), x...)}, {Steps: append(many("put 1 1 'x'"), x...)}, {Steps: []api.Step{{}}},
		{Kept: []int{0}}, {Kept: []int{1}}, {Kept: []int{0, 1}}, {Kept: []int{1, 0}}, {Kept: []int{0, 0}}, {Dropped: []int{0}}, {Dropped: []int{1}}, {Dropped: []int{0, 1}}, {Dropped: []int{1, 0}}, {Dropped: []int{-1}}, {Kept: []int{0}, Dropped: []int{0}}, {Kept: []int{0, 1}, Dropped: []int{0}}, {Kept: []int{0}, Dropped: []int{0, 1}},
		{Doc: tree(pair), Steps: x, Kept: []int{0}, Dropped: []int{1}}, {Doc: tree(pair), Steps: y, Kept: []int{0}, Dropped: []int{1}}, {Doc: tree(pair), Steps: x, Kept: []int{1}, Dropped: []int{0}}, {Doc: tree(pair), Steps: x, Kept: []int{0}}, {Doc: tree(pair), Steps: x, Dropped: []int{1}}, {Doc: tree(pair), Kept: []int{0}, Dropped: []int{1}}, {Steps: x, Kept: []int{0}, Dropped: []int{1}},
		{Doc: tree("h[level=1]")}, {Doc: tree("h[level=2]")}, {Doc: tree("h^em")}, {Steps: many("swap 1 2 'x'")}, {Steps: many("swap 1 2 'x'^em")}, {Steps: many("attr 0 a=b")}, {Steps: many("attr 0 a=c")},
	}
	for i, a := range l {
		for k, b := range l {
			if got := rebase.Same(a, b); got != (i == k) {
				t.Errorf("Same of %s and %s: %t", shownRebased(a), shownRebased(b), got)
			}
		}
		if empty := hollow(a); !rebase.Same(a, empty) || !rebase.Same(empty, a) {
			t.Errorf("%s is another one with empty lists", shownRebased(a))
		}
	}
}
