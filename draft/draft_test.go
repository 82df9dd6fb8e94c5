package draft_test

import (
	"math"
	"strings"
	"testing"

	"copydesk/api"
	"copydesk/draft"
	"copydesk/node"
	"copydesk/row"
	"copydesk/schema"
)

// pair is the chapter's document.
const pair = "doc(p('ab') p('c'))"

func TestExamples(t *testing.T) {
	play(t, pages(), pair, 0, 5, `
		edit put 3 3 'y' = 1
		pending = 5.1 put 3 3 'y'
		take 0 9.1 put 1 1 'x' = 1
		version = 1
		pending = 5.1 put 4 4 'y'
		take 1 5.1 put 4 4 'y' = 1
		doc = doc(p('xaby') p('c'))
		pending =
		take 0 = stale
	`)
}

// P16.1

func TestNew(t *testing.T) {
	for _, x := range []struct {
		s       api.Schema
		doc     string
		version int
		client  uint64
	}{
		{pages(), pair, 0, 1}, {pages(), pair, 7, 5}, {pages(), pair, math.MaxInt, math.MaxUint64}, {pages(), "doc(p)", 1, 1 << 63}, {books(), "top", 0, 1}, {letters(), "doc('a'^em note[by=q](dot[a=,b=2]))", 3, 3},
	} {
		b := newBoth(t, x.s, tree(x.doc), x.version, x.client)
		b.pendings()
		if d := b.d; d.Version() != x.version || d.Client() != x.client || !alike(d.Doc(), tree(x.doc)) || !alike(d.Base(), tree(x.doc)) || len(d.Pending(64))+len(d.Dropped()) > 0 {
			t.Errorf("New of %s, %d, %d: %s, %s, %d, %d, %v, %v", x.doc, x.version, x.client, told(d.Doc()), told(d.Base()), d.Version(), d.Client(), d.Pending(64), d.Dropped())
		}
	}
}

type wrongNew struct {
	s       api.Schema
	n       api.Node
	version int
	client  uint64
	e       api.Errno
}

// wrongNews are what New has an error of: the document's error is told ahead of one of the numbers'.
func wrongNews() []wrongNew {
	deep := tree("p")
	for range 15 {
		deep = api.Node{Type: "li", Kids: []api.Node{{Type: "p"}, deep}}
	}
	deep = api.Node{Type: "doc", Kids: []api.Node{deep}}
	great := api.Node{Type: "doc", Kids: make([]api.Node, api.MaxDoc-1)}
	for i := range great.Kids {
		great.Kids[i].Type = "hr"
	}
	less, many := pages(), pages()
	less.Types = less.Types[:6]
	many.Types = append(many.Types, make([]api.NodeType, 26)...)
	all := []wrongNew{
		{pages(), tree(pair), -1, 1, arg}, {pages(), tree(pair), math.MinInt, 1, arg}, {pages(), tree(pair), 0, 0, arg}, {pages(), tree(pair), 9, 0, arg}, {pages(), tree(pair), -1, 0, arg}, {books(), tree("top"), -7, math.MaxUint64, arg},
	}
	for _, x := range []wrongNew{
		{s: api.Schema{}, n: tree(pair), e: arg}, {s: less, n: tree(pair), e: arg}, {s: many, n: tree(pair), e: long},
		{s: pages(), n: deep, e: long}, {s: pages(), n: great, e: long},
		{s: pages(), n: api.Node{}, e: shape}, {s: pages(), n: tree("doc"), e: shape}, {s: pages(), n: tree("p('ab')"), e: shape}, {s: pages(), n: tree("doc(p('a' 'b'))"), e: shape}, {s: pages(), n: tree("doc^em(p)"), e: shape}, {s: pages(), n: tree("doc(h)"), e: shape}, {s: books(), n: tree(pair), e: shape}, {s: books(), n: tree("top^note[by=x]"), e: shape},
	} {
		for i := range 4 {
			x.version, x.client = -(i % 2), uint64(i/2)
			all = append(all, x)
		}
	}
	return all
}

func TestErrorsOfNew(t *testing.T) {
	for _, x := range wrongNews() {
		d, e := draft.New(x.s, x.n, x.version, x.client)
		if _, f := modelOf(x.s, x.n, x.version, x.client); d != nil || e != x.e || f != x.e {
			t.Errorf("New of %s, %d, %d: error %d, by the words %d, want %d", told(x.n), x.version, x.client, e, f, x.e)
		}
	}
	if schema.Check(pages()) != ok || schema.Check(books()) != ok || schema.Check(letters()) != ok {
		t.Error("schemas that may not be")
	}
}

// P16.2: Edit

func TestEdit(t *testing.T) {
	play(t, pages(), pair, 3, 5, `
		edit put 1 1 'x' = 1
		edit mark 1 3 em = 2
		edit bare 2 3 em = 3
		edit wrap 0 0 8 8 1 (li ) = 4
		edit put 0 0 (h[level=1] ) = 5
		edit attr 0 level=2 = 6
		edit swap 4 5 'x' = 7
		edit put 9 9 = 8
		base = doc(p('ab') p('c'))
		version = 3
		doc = doc(h[level=2] li(p('xab') p('c')))
		pending = 5.1 put 1 1 'x' ; 5.2 mark 1 3 em ; 5.3 bare 2 3 em ; 5.4 wrap 0 0 8 8 1 (li ) ; 5.5 put 0 0 (h[level=1] ) ; 5.6 attr 0 level=2 ; 5.7 swap 4 5 'x' ; 5.8 put 9 9
		dropped =
	`)
	play(t, books(), "top(sec(par))", 0, math.MaxUint64, `
		edit put 2 2 'a'^b = 1
		edit put 3 3 /img[src=x]^a[href=q,title=r] = 2
		edit mark 0 6 a[href=s,title=t] = 3
		doc = top(sec(par('a'^a[href=s,title=t]^b img[src=x]^a[href=s,title=t])))
	`)
}

// Each step is done to the document, not to what is confirmed.
func TestEditOfTheDocument(t *testing.T) {
	play(t, pages(), pair, 0, 5, `
		edit put 8 8 (p ) = place
		edit put 1 1 'x' = 1
		edit put 8 8 (p ) = 2
		edit put 4 6 = 3
		doc = doc(p('xabc') p)
		edit put 8 8 = 4
		edit put 9 9 = place
	`)
}

// With an error nothing is another one, and no serial number is given.
func TestErrorsOfEdit(t *testing.T) {
	play(t, pages(), pair, 0, 5, `
		edit put 1 1 'x' = 1
		edit put 2 1 = arg
		edit put 1 1 (zz = arg
		edit put -1 1 = arg
		edit mark 1 2 zz = arg
		edit attr 0 `+name17+`=x = long
		edit attr 0 level=`+strings.Repeat("v", 65)+` = long
		edit put 1 90 = place
		edit swap 1 2 'q' = place
		edit attr 1 level=2 = place
		edit attr 0 level=2 = none
		edit put 1 5 = shape
		edit put 0 8 = shape
		doc = doc(p('xab') p('c'))
		edit put 1 1 'y' = 2
		pending = 5.1 put 1 1 'x' ; 5.2 put 1 1 'y'
	`)
	b := newBoth(t, pages(), tree(pair), 0, 5)
	for _, step := range []api.Step{{}, {Kind: 7}, {Kind: -1}, {Kind: api.StepPut, Gap: 1}, {Kind: api.StepMark, To: 2, Mark: api.Mark{Type: "em"}, Name: "a"}, {Kind: api.StepPut, From: math.MinInt, To: math.MaxInt}} {
		if _, e := b.edit(step); e != arg {
			t.Errorf("Edit of %s: error %d", shownStep(step), e)
		}
	}
}

// So many may be not confirmed, and no more: that counts ahead of what is wrong with a step.
func TestEditOfTooMany(t *testing.T) {
	b := newBoth(t, pages(), tree(pair), 0, 5)
	for i := range uint64(api.MaxOwn) {
		if serial, e := b.edit(change("put 1 1 'x'")); serial != i+1 || e != ok {
			t.Fatalf("%d: %d, error %d", i, serial, e)
		}
	}
	b.pendings()
	for _, s := range []string{"put 1 1 'x'", "put 2 1", "put 1 900", "put 1 70"} {
		if _, e := b.edit(change(s)); e != long {
			t.Errorf("%s: error %d", s, e)
		}
	}
	// As many as are confirmed, dropped or taken back may be done.
	b.take(0, b.d.Pending(2))
	for i, want := range []api.Errno{ok, ok, long} {
		if _, e := b.edit(change("put 66 66 'y'")); e != want {
			t.Errorf("%d, behind confirmed ones: error %d", i, e)
		}
	}
	b.take(2, logged("9.1 put 0 6"))
	if l := b.d.Dropped(); len(l) != 64 {
		t.Errorf("dropped: %v", l)
	}
	for i := range 65 {
		if _, e := b.edit(change("put 1 1 'z'")); (e == ok) != (i < 64) {
			t.Errorf("%d, behind dropped ones: error %d", i, e)
		}
	}
	b.back(3)
	for i, want := range []api.Errno{ok, ok, ok, long} {
		if _, e := b.edit(change("put 1 1 'u'")); e != want {
			t.Errorf("%d, behind those taken back: error %d", i, e)
		}
	}
}

// No serial number is given twice, whatever became of the one that had it.
func TestSerialNumbers(t *testing.T) {
	play(t, pages(), pair, 0, 5, `
		edit put 1 1 'x' = 1
		edit put 2 2 'y' = 2
		take 0 5.1 put 1 1 'x' ; 5.2 put 2 2 'y' = 2
		edit put 2 2 'z' = 3
		take 2 9.7 put 1 5 = 1
		dropped = 3
		edit put 1 1 'u' = 4
		edit put 1 1 'v' = 5
		back 2 = 2
		pending =
		edit put 1 1 'w' = 6
		edit put 1 9 = place
		back 1 = 1
		edit put 1 1 'q' = 7
		edit put 2 2 'r' = 8
		back 1 = 1
		edit put 2 2 's' = 9
		pending = 5.7 put 1 1 'q' ; 5.9 put 2 2 's'
	`)
}

// The greatest document that may be.
func TestTheGreatest(t *testing.T) {
	t.Parallel()
	n, e := row.Make(pages(), times(tokens("/hr"), api.MaxDoc-4))
	if e != ok {
		t.Fatal(e)
	}
	b := newBoth(t, pages(), n, 0, 5)
	b.edit(change("put 9 9 /hr"))
	b.edit(change("put 20 21"))
	b.edit(change("put 9 9 /hr /hr"))
	if _, e := b.edit(change("put 9 9 /hr")); e != long || node.Size(pages(), b.d.Doc()) != api.MaxDoc {
		t.Errorf("error %d, size %d", e, node.Size(pages(), b.d.Doc()))
	}
	if n, e := b.take(0, logged("9.1 put 0 0 /hr ; 9.2 put 0 0 /hr ; 9.3 put 0 0 /hr")); n != 2 || e != long {
		t.Errorf("%d came, error %d", n, e)
	}
	if l := b.d.Dropped(); len(l) != 2 || l[0] != 3 || l[1] != 1 {
		t.Errorf("dropped %v", l)
	}
}
