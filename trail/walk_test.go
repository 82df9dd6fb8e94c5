package trail_test

import (
	"strings"
	"testing"

	"copydesk/api"
	"copydesk/node"
	"copydesk/row"
	"copydesk/schema"
	"copydesk/step"
	"copydesk/trail"
)

// P12.1: Check, Walk and Undo

// pair is the chapter's document.
const pair = "doc(p('ab') p('c'))"

func TestCheck(t *testing.T) {
	for _, x := range []struct {
		steps string
		e     api.Errno
	}{
		{"", ok}, {"put 1 1 'x' ; put 3 3 'y'", ok}, {"put 65535 65536 ; mark 0 9 code ; attr 9 level=2 ; swap 4 5 'a' ; bare 0 1 em ; wrap 0 0 9 9 1 (li )", ok},
		{"put 2 1", arg}, {"put 1 1 ; put 2 1 ; put 1 1", arg}, {"put 1 1 ; attr 0 Level=2", arg}, {"mark 0 1 zz ; put 1 1", arg}, {"attr 0 " + name17 + "=2", long},
		// The first one counts.
		{"put 2 1 ; attr 0 " + name17 + "=2", arg}, {"attr 0 " + name17 + "=2 ; put 2 1", long}, {"put 1 1 ; put 1 1 /zz ; attr 0 " + name17 + "=2", arg}, {"put 1 1 ; attr 0 " + name17 + "=2 ; put 1 1 /zz", long},
	} {
		checkIs(t, pages(), many(x.steps), x.e)
	}
	checkIs(t, books(), many("mark 0 1 em"), arg)
	checkIs(t, books(), many("mark 0 1 sub"), ok)
}

// repeated is the step that s tells, so often.
func repeated(s string, n int) []api.Step {
	var l []api.Step
	for range n {
		l = append(l, change(s))
	}
	return l
}

func TestCheckOfMany(t *testing.T) {
	checkIs(t, pages(), repeated("put 1 1 'x'", 256), ok)
	checkIs(t, pages(), repeated("put 1 1 'x'", 257), long)
	checkIs(t, pages(), repeated("put 2 1", 256), arg)
	// Too many are asked for ahead of what each of them is, and ahead of the schema.
	checkIs(t, pages(), repeated("put 2 1", 257), long)
	checkIs(t, api.Schema{}, repeated("put 1 1", 257), long)
	l := repeated("put 1 1 'x'", 256)
	l[255] = change("put 2 1")
	checkIs(t, pages(), l, arg)
}

// Where there is no step, nothing is asked of the schema.
func TestCheckByASchemaThatMayNotBe(t *testing.T) {
	for _, x := range badSchemas() {
		checkIs(t, x.s, nil, ok)
		checkIs(t, x.s, many("put 1 1"), x.e)
		checkIs(t, x.s, many("put 2 1 ; put 1 1"), x.e)
	}
}

type badSchema struct {
	s api.Schema
	e api.Errno
}

// badSchemas are schemas none of which may be, and their errors.
func badSchemas() []badSchema {
	less, many := pages(), pages()
	less.Types = less.Types[:6]
	many.Types = append(many.Types, make([]api.NodeType, 26)...)
	all := []badSchema{{api.Schema{}, arg}, {less, arg}, {many, long}}
	for _, x := range all {
		if schema.Check(x.s) != x.e {
			panic("other errors of the schemas")
		}
	}
	return all
}

func TestWalk(t *testing.T) {
	for _, x := range []struct {
		s                api.Schema
		doc, steps, want string
		done             int
		e                api.Errno
	}{
		// The examples.
		{pages(), pair, "put 1 1 'x' ; put 3 3 'y'", "doc(p('xayb') p('c'))", 2, ok}, {pages(), pair, "put 1 4", pair, 0, shape},
		{pages(), pair, "", pair, 0, ok}, {pages(), pair, "put 1 1", pair, 1, ok}, {pages(), pair, "put 3 5", "doc(p('abc'))", 1, ok}, {pages(), pair, "put 3 5 ; put 3 3 ) (p ; put 3 5", "doc(p('abc'))", 3, ok},
		{pages(), pair, "wrap 0 0 7 7 1 (li ) ; mark 0 9 em ; put 1 1 (p ) ; bare 5 6 em", "doc(li(p p('a'^em 'b') p('c'^em)))", 4, ok}, {pages(), "doc(h[level=1])", "attr 0 level=2 ; attr 0 level=3 ; put 1 1 'x'", "doc(h[level=3]('x'))", 3, ok},
		{books(), "top(sec(fig[alt=x,src=y]))", "attr 1 src=z ; put 2 2 (par ) ; put 3 3 'a'^b ; swap 3 4 'a'^sub", "top(sec(fig[alt=x,src=z](par('a'^sub))))", 4, ok},
		// A step that has an error: the first one counts, and what is ahead of it is done.
		{pages(), pair, "put 1 1 'x' ; put 1 9", "doc(p('xab') p('c'))", 1, place}, {pages(), pair, "put 1 9 ; put 1 1 'x'", pair, 0, place}, {pages(), pair, "put 1 1 'x' ; put 9 1 ; put 1 9", "doc(p('xab') p('c'))", 1, arg},
		{pages(), pair, "put 1 1 'x' ; put 2 2 'y' ; put 1 6 ; put 9 1", "doc(p('xyab') p('c'))", 2, shape}, {pages(), pair, "put 1 3 ; attr 0 level=2", "doc(p p('c'))", 1, none}, {pages(), pair, "put 1 3 ; attr 0 " + name17 + "=2", "doc(p p('c'))", 1, long},
		{pages(), pair, "put 0 7", pair, 0, shape}, {pages(), pair, "put 0 4 ; put 0 3", "doc(p('c'))", 1, shape}, {pages(), pair, "put 0 4 ; swap 1 2 'a'", "doc(p('c'))", 1, place}, {pages(), pair, "put 0 4 ; mark 0 4 em", "doc(p('c'))", 1, place}, {pages(), pair, "put 0 4 ; attr 0 level=2 ; put 0 3", "doc(p('c'))", 1, none},
		// The document's own error: nothing is told beside it.
		{pages(), "doc", "", "", 0, shape}, {pages(), "doc", "put 0 0 (p )", "", 0, shape}, {pages(), "p", "put 9 1", "", 0, shape}, {pages(), "doc(p('a' 'b'))", "put 1 1", "", 0, shape}, {books(), pair, "put 1 1", "", 0, shape},
		{books(), "top", "", "top", 0, ok}, {books(), "top", "put 0 0 (sec ) ; put 0 2", "top", 2, ok},
	} {
		want := api.Node{}
		if x.want != "" {
			want = tree(x.want)
		}
		walkIs(t, x.s, tree(x.doc), many(x.steps), want, x.done, x.e)
		if e := asTold(t, x.s, tree(x.doc), many(x.steps)); e != x.e {
			t.Errorf("%s from %s: error %d", x.steps, x.doc, e)
		}
	}
}

func TestUndo(t *testing.T) {
	for _, x := range []struct {
		s                api.Schema
		doc, steps, want string
	}{
		{pages(), pair, "", ""}, {pages(), pair, "put 1 3", "put 1 1 'ab'"}, {pages(), pair, "put 1 1 'x' ; put 3 3 'y'", "put 3 4 ; put 1 2"}, {pages(), pair, "put 1 1 'x' ; put 3 3 'y' ; put 1 5", "put 1 1 'xayb' ; put 3 4 ; put 1 2"},
		{pages(), pair, "put 1 2 ; put 1 2", "put 1 1 'b' ; put 1 1 'a'"}, {pages(), pair, "wrap 0 0 7 7 1 (li ) ; mark 0 9 em ; bare 2 3 em", "swap 2 3 'a'^em ; swap 0 9 (li (p 'ab' ) (p 'c' ) ) ; wrap 0 1 8 9 0"},
		{pages(), "doc(h[level=1])", "attr 0 level=2 ; attr 0 level=3", "attr 0 level=2 ; attr 0 level=1"}, {pages(), "doc(hr)", "put 1 1 (p ) ; put 0 1 ; put 1 1 'x'", "put 1 2 ; put 0 0 /hr ; put 1 3"},
	} {
		undoIs(t, x.s, tree(x.doc), many(x.steps), many(x.want))
		asTold(t, x.s, tree(x.doc), many(x.steps))
	}
}

// So many steps may be in a trail, and no more, whatever else is wrong with them; the document's error is told ahead of that.
func TestWalkOfMany(t *testing.T) {
	t.Parallel()
	l := repeated("put 1 1 'x'", 256)
	walkIs(t, pages(), tree("doc(p)"), l, doc(api.Node{Type: "p", Kids: []api.Node{{Type: "text", Text: strings.Repeat("x", 256)}}}), 256, ok)
	tightIs(t, l, []api.Step{{Kind: api.StepPut, From: 1, To: 1, Mid: times(tokens("'x'"), 256)}})
	// The last step counts, as all do.
	l[255] = change("put 1 9000")
	walkIs(t, pages(), tree("doc(p)"), l, doc(api.Node{Type: "p", Kids: []api.Node{{Type: "text", Text: strings.Repeat("x", 255)}}}), 255, place)
	for _, s := range []string{"put 1 1 'x'", "put 2 1", "put 0 2", "put 1 9", "mark 0 1 zz"} {
		l := repeated(s, 257)
		walkIs(t, pages(), tree("doc(p)"), l, api.Node{}, 0, long)
		walkIs(t, pages(), tree("doc"), l, api.Node{}, 0, shape)
		walkIs(t, pages(), api.Node{}, l, api.Node{}, 0, shape)
		walkIs(t, api.Schema{}, tree("doc(p)"), l, api.Node{}, 0, arg)
		walkIs(t, pages(), doc(nested(20)), l[:1], api.Node{}, 0, long)
	}
}

// The schema's error is the document's, ahead of the steps'.
func TestWalkByASchemaThatMayNotBe(t *testing.T) {
	for _, x := range badSchemas() {
		for _, l := range [][]api.Step{nil, many("put 1 1"), many("put 2 1"), repeated("put 1 1", 257)} {
			walkIs(t, x.s, tree(pair), l, api.Node{}, 0, x.e)
			walkIs(t, x.s, api.Node{}, l, api.Node{}, 0, x.e)
		}
	}
}

// The greatest document that may be, taken away in two steps, put again, and undone.
func TestWalkOfTheGreatest(t *testing.T) {
	t.Parallel()
	n, e := row.Make(pages(), times(tokens("/hr"), api.MaxDoc-2))
	if e != ok || node.Size(pages(), n) != api.MaxDoc {
		t.Fatal(e)
	}
	l := []api.Step{change("put 1 32767"), change("put 1 32767"), {Kind: api.StepPut, From: 1, To: 2, Mid: times(tokens("/hr"), api.MaxDoc-3)}}
	if e := asTold(t, pages(), n, l); e != ok {
		t.Error(e)
	}
	tight := []api.Step{{Kind: api.StepPut, From: 1, To: api.MaxDoc - 2, Mid: times(tokens("/hr"), api.MaxDoc-3)}}
	tightIs(t, l, tight)
	one := change("put 0 0 /hr")
	if _, e := step.Do(pages(), n, one); e != long {
		t.Error(e)
	}
	walkIs(t, pages(), n, []api.Step{change("put 1 1"), one, one}, n, 1, long)
	if k := len(trail.Chain(l).Maps); k != 3 {
		t.Error(k)
	}
}
