package step_test

import (
	"math"
	"strings"
	"testing"

	"copydesk/api"
	"copydesk/node"
	"copydesk/row"
	"copydesk/step"
)

// P11.3: Between; of P11.2 Same and Copy

func TestBetween(t *testing.T) {
	for _, x := range []struct {
		s          api.Schema
		a, b, want string
	}{
		{pages(), pair, "doc(p('axb') p('c'))", "put 2 2 'x'"}, {pages(), pair, pair, "put 7 7"}, {pages(), pair, "doc(p('abc'))", "put 3 5"}, {pages(), "doc(p('abc'))", pair, "put 3 3 ) (p"}, {pages(), pair, "doc(hr)", "put 0 7 /hr"}, {pages(), "doc(hr)", pair, "put 0 1 (p 'ab' ) (p 'c' )"},
		// What is alike at both ends: the beginning counts first.
		{pages(), "doc(p('aa'))", "doc(p('aaa'))", "put 3 3 'a'"}, {pages(), "doc(p('aaa'))", "doc(p('aa'))", "put 3 4"}, {pages(), "doc(p p)", "doc(p p p)", "put 4 4 (p )"}, {pages(), "doc(p p p)", "doc(p p)", "put 4 6"}, {pages(), "doc(p('abab'))", "doc(p('ab'))", "put 3 5"}, {pages(), "doc(p('ab'))", "doc(p('abab'))", "put 3 3 'ab'"},
		{pages(), "doc(p('abc'))", "doc(p('aBc'))", "put 2 3 'B'"}, {pages(), "doc(p('abc'))", "doc(p('xbc'))", "put 1 2 'x'"}, {pages(), "doc(p('abc'))", "doc(p('abx'))", "put 3 4 'x'"}, {pages(), "doc(p('abc'))", "doc(p('xby'))", "put 1 4 'xby'"}, {pages(), "doc(hr)", "doc(hr hr)", "put 1 1 /hr"}, {pages(), "doc(hr hr)", "doc(hr)", "put 1 2"},
		// Marks, attributes, types.
		{pages(), "doc(p('abc'))", "doc(p('a' 'b'^em 'c'))", "put 2 3 'b'^em"}, {pages(), "doc(h[level=1]('a'))", "doc(h[level=2]('a'))", "put 0 1 (h[level=2]"}, {pages(), "doc(h[level=1]('a'))", "doc(p('a'))", "put 0 1 (p"}, {pages(), "doc(p('a'^em))", "doc(p('a'^code))", "put 1 2 'a'^code"}, {pages(), "doc(p(br))", "doc(p(br^em))", "put 1 2 /br^em"},
		{books(), "top", "top", "put 0 0"}, {books(), "top", "top(sec(hr))", "put 0 0 (sec /hr )"}, {books(), "top(sec(hr))", "top", "put 0 3"}, {books(), "top(sec(par('a'^a[href=x,title=])))", "top(sec(par('a'^a[href=y,title=])))", "put 2 3 'a'^a[href=y,title=]"}, {books(), "top(sec(hr))", "top(sec^note[by=](hr))", "put 0 1 (sec^note[by=]"}, {books(), "top(sec)", "top(sec sec)", "put 2 2 (sec )"},
		{letters(), "doc('ab' dot[a=,b=])", "doc('ab' dot[a=,b=1])", "put 2 3 /dot[a=,b=1]"}, {letters(), "doc", "doc('a')", "put 0 0 'a'"}, {small("doc:"), "doc", "doc", "put 0 0"},
	} {
		betweenIs(t, x.s, tree(x.a), tree(x.b), change(x.want), ok)
	}
}

func TestBetweenOfWhatIsNoDocument(t *testing.T) {
	good := tree(pair)
	for _, x := range []struct {
		n api.Node
		e api.Errno
	}{
		{api.Node{}, shape}, {tree("p('a')"), shape}, {tree("doc^em(p('a'))"), shape}, {tree("doc(p('a' 'b'))"), shape}, {tree("doc(zz)"), shape}, {tree("doc"), shape}, {doc(nested(20)), long}, {doc(tree("p('" + strings.Repeat("a", 1<<16) + "')")), long},
	} {
		betweenIs(t, pages(), x.n, good, api.Step{}, x.e)
		betweenIs(t, pages(), good, x.n, api.Step{}, x.e)
		betweenIs(t, pages(), x.n, x.n, api.Step{}, x.e)
		// The first one's error counts first.
		betweenIs(t, pages(), x.n, doc(nested(20)), api.Step{}, x.e)
		betweenIs(t, pages(), doc(nested(20)), x.n, api.Step{}, long)
		betweenIs(t, pages(), x.n, api.Node{}, api.Step{}, x.e)
	}
}

func TestBetweenOfMaxDoc(t *testing.T) {
	t.Parallel()
	most := strings.Repeat("a", api.MaxDoc-4)
	a, b := doc(tree("p('"+most+"')")), doc(tree("p('"+most[1:]+"')"))
	betweenIs(t, pages(), a, b, change("put 65532 65533"), ok)
	betweenIs(t, pages(), b, a, change("put 65532 65532 'a'"), ok)
	betweenIs(t, pages(), a, a, change("put 65534 65534"), ok)
	full, e := row.Make(pages(), times(tokens("/hr"), api.MaxDoc-2))
	if e != ok || node.Size(pages(), full) != api.MaxDoc {
		t.Fatal(e)
	}
	other := api.Step{Kind: api.StepPut, To: api.MaxDoc - 2, Mid: times(tokens("/hr"), api.MaxDoc-2)}
	betweenIs(t, pages(), a, full, other, ok)
}

// differ are steps of which no two are the same.
func differ() []api.Step {
	all := []api.Step{{}}
	for _, s := range append(right(), "put 0 0 (h[level=2] )", "put 0 0 (h[level=3] )", "put 0 0 (h[levels=3] )", "put 0 0 'a'^em", "put 0 0 'a'^code", "put 0 0 'a'^em^code", "put 0 0 'a'^em[a=1]", "put 0 0 /a", "put 0 0 (a", "put 0 0 'aa'", "put 0 0 'b'",
		"mark 0 7 a[href=x,title=]", "mark 0 7 a[href=x]", "mark 0 7 a", "mark 0 7 a[href=x,title=y]", "mark 0 7 a[title=y,href=x]", "mark 0 7 a[href=y]", "attr 0 level=3", "attr 0 levels=2", "attr 0 =level2", "attr 0 level2=") {
		all = append(all, change(s))
	}
	for i, put := range []func(t *api.Step){
		func(t *api.Step) { t.Kind++ }, func(t *api.Step) { t.From++ }, func(t *api.Step) { t.To++ }, func(t *api.Step) { t.Gap++ }, func(t *api.Step) { t.End++ }, func(t *api.Step) { t.Insert++ }, func(t *api.Step) { t.Mid = tokens(")") },
		func(t *api.Step) { t.Mark.Type = "a" }, func(t *api.Step) { t.Mark.Attrs = make([]api.Attr, 1) }, func(t *api.Step) { t.Mark.Attrs = []api.Attr{{Name: "a"}} }, func(t *api.Step) { t.Mark.Attrs = []api.Attr{{Value: "a"}} }, func(t *api.Step) { t.Name = "a" }, func(t *api.Step) { t.Value = "a" },
		func(t *api.Step) { t.Mid = make([]api.Token, 1) }, func(t *api.Step) { t.Mid = make([]api.Token, 2) },
	} {
		x := api.Step{Kind: 100}
		if i > 0 {
			all = append(all, x)
		}
		put(&x)
		all = append(all, x)
		x = api.Step{Kind: 200 + i, From: math.MinInt, To: math.MaxInt, Gap: -1, End: -2, Insert: -3, Mid: tokens("/zz '\x00'^b[a=1]^b"), Mark: api.Mark{Type: "A", Attrs: []api.Attr{{Name: "z"}, {Name: "a"}}}, Name: "A", Value: "\n"}
		all = append(all, x)
		put(&x)
		x.Kind = 200 + i
		all = append(all, x)
	}
	return all
}

func TestSameAndCopy(t *testing.T) {
	all := differ()
	for _, a := range all {
		for _, b := range all {
			if got := step.Same(a, b); got != equalSteps(a, b) {
				t.Errorf("Same of %s and %s: %t", shownStep(a), shownStep(b), got)
			}
		}
		if got := step.Copy(a); !equalSteps(got, a) || !step.Same(got, a) || !step.Same(a, got) {
			t.Errorf("Copy of %s: %s", shownStep(a), shownStep(got))
		}
	}
	many := api.Step{Mid: times(tokens("'a'^em"), 1<<17), Mark: api.Mark{Attrs: make([]api.Attr, 1<<10)}}
	other := step.Copy(many)
	if !step.Same(many, other) {
		t.Error("Copy of what is too long is another one")
	}
	other.Mid[1<<17-1].Char++
	if step.Same(many, other) {
		t.Error("Same tells nothing of the last token")
	}
}
