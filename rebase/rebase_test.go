package rebase_test

import (
	"strings"
	"testing"

	"copydesk/api"
	"copydesk/node"
	"copydesk/row"
	"copydesk/schema"
)

// P13.1 and P13.3: Rebase

// pair is the chapter's document.
const pair = "doc(p('ab') p('c'))"

// rebased is what is told of one's own steps: those that were done anew, which of own they were, which were dropped, and the document.
type rebased struct {
	steps, kept, dropped, doc string
}

func (r rebased) all() api.Rebased {
	return api.Rebased{Doc: tree(r.doc), Steps: many(r.steps), Kept: numbers(r.kept), Dropped: numbers(r.dropped)}
}

func TestRebase(t *testing.T) {
	t.Parallel()
	for _, x := range []struct {
		doc, own, others string
		want             rebased
	}{
		// The examples.
		{pair, "put 3 3 'y'", "put 1 1 'x'", rebased{"put 4 4 'y'", "0", "", "doc(p('xaby') p('c'))"}},
		{pair, "put 1 3", "put 2 2 'z'", rebased{"put 1 4", "0", "", "doc(p p('c'))"}},
		{pair, "mark 1 2 em", "put 0 4", rebased{"", "", "0", "doc(p('c'))"}},
		// Nothing of one's own, nothing of the others', neither.
		{pair, "", "", rebased{"", "", "", pair}},
		{pair, "", "put 1 1 'x' ; put 4 6", rebased{"", "", "", "doc(p('xabc'))"}},
		{pair, "put 1 1 'x' ; put 2 3 ; mark 1 3 em", "", rebased{"put 1 1 'x' ; put 2 3 ; mark 1 3 em", "0 1 2", "", "doc(p('xb'^em) p('c'))"}},
		{pair, "put 1 1 ; put 7 7 ; mark 3 3 em ; swap 0 0", "", rebased{"put 1 1 ; put 7 7 ; mark 3 3 em ; swap 0 0", "0 1 2 3", "", pair}},
		// Others' stand ahead of one's own that were put at the same place, and one's own stay as they stood.
		{pair, "put 1 1 'x' ; put 2 2 'y'", "put 1 1 'z'", rebased{"put 2 2 'x' ; put 3 3 'y'", "0 1", "", "doc(p('zxyab') p('c'))"}},
		{pair, "put 1 1 'x' ; put 1 1 'y'", "put 1 1 'z'", rebased{"put 2 2 'x' ; put 2 2 'y'", "0 1", "", "doc(p('zyxab') p('c'))"}},
		{pair, "put 1 1 'x' ; put 3 3 'y'", "put 1 1 'z' ; put 3 3 'q'", rebased{"put 2 2 'x' ; put 5 5 'y'", "0 1", "", "doc(p('zxaqyb') p('c'))"}},
		{pair, "put 2 2 'x' ; put 2 3 ; put 2 2 'y'", "put 2 2 'z'", rebased{"put 3 3 'x' ; put 3 4 ; put 3 3 'y'", "0 1 2", "", "doc(p('azyb') p('c'))"}},
		// Where others took away what stood on both sides, one's own is gone; on one side alone it stays.
		{pair, "put 2 2 'x'", "put 1 3", rebased{"", "", "0", "doc(p p('c'))"}},
		{pair, "put 1 1 'x'", "put 1 3", rebased{"put 1 1 'x'", "0", "", "doc(p('x') p('c'))"}},
		{pair, "put 3 3 'x'", "put 1 3", rebased{"put 1 1 'x'", "0", "", "doc(p('x') p('c'))"}},
		{pair, "put 2 3 'q'", "put 1 3", rebased{"put 1 1 'q'", "0", "", "doc(p('q') p('c'))"}},
		{pair, "put 2 2 'x' ; put 2 3 'y' ; put 6 6 'z'", "put 1 3", rebased{"put 3 3 'z'", "2", "0 1", "doc(p p('zc'))"}},
		// What comes to nothing is dropped, but what was nothing from the beginning is not.
		{pair, "put 2 3", "put 1 3", rebased{"", "", "0", "doc(p p('c'))"}},
		{pair, "put 1 3", "put 1 3", rebased{"", "", "0", "doc(p p('c'))"}},
		{pair, "put 1 2", "put 1 3 ; put 1 1 'z'", rebased{"", "", "0", "doc(p('z') p('c'))"}},
		{pair, "put 1 3 ; put 1 1 'q'", "put 1 2 ; put 1 2", rebased{"put 1 1 'q'", "1", "0", "doc(p('q') p('c'))"}},
		{pair, "put 1 1", "put 1 1 'x'", rebased{"put 2 2", "0", "", "doc(p('xab') p('c'))"}},
		{pair, "put 1 1", "put 1 3", rebased{"put 1 1", "0", "", "doc(p p('c'))"}},
		{pair, "put 2 2", "put 1 3", rebased{"", "", "0", "doc(p p('c'))"}},
		// Of a StepPut alone: where others took all that a StepWrap was to take, it stays, doing nothing.
		{"doc(li(p('ab') p('c')))", "wrap 0 1 8 9 0 ; put 1 1 'x'", "wrap 0 1 8 9 0", rebased{"wrap 0 0 7 7 0 ; put 1 1 'x'", "0 1", "", "doc(p('xab') p('c'))"}},
		// What can't be done then is dropped, and those behind it are moved without it.
		{pair, "put 0 4", "put 4 7", rebased{"", "", "0", "doc(p('ab'))"}},
		{pair, "put 3 5", "wrap 4 4 7 7 1 (li )", rebased{"", "", "0", "doc(p('ab') li(p('c')))"}},
		{pair, "put 3 5 ; put 3 3 'x' ; put 5 5 'y'", "wrap 4 4 7 7 1 (li )", rebased{"put 6 6 'x' ; put 8 8 'y'", "1 2", "0", "doc(p('ab') li(p('xcy')))"}},
		{pair, "put 1 1 'x' ; put 4 6 ; put 2 3", "wrap 4 4 7 7 1 (li )", rebased{"put 1 1 'x' ; put 2 3", "0 2", "1", "doc(p('xb') li(p('c')))"}},
		// What is swapped must stand there still.
		{pair, "swap 1 2 'a'^em", "put 1 1 'z'", rebased{"swap 2 3 'a'^em", "0", "", "doc(p('z' 'a'^em 'b') p('c'))"}},
		{pair, "swap 1 2 'a'^em", "put 1 2 'z'", rebased{"", "", "0", "doc(p('zb') p('c'))"}},
		{pair, "swap 1 3 'ab'^em", "put 2 2 'z'", rebased{"", "", "0", "doc(p('azb') p('c'))"}},
		// Attributes.
		{"doc(h[level=1]('a') p)", "attr 0 level=2", "put 0 0 (p )", rebased{"attr 2 level=2", "0", "", "doc(p h[level=2]('a') p)"}},
		{"doc(p h[level=1])", "attr 2 level=2 ; attr 2 level=3", "put 0 2", rebased{"attr 0 level=2 ; attr 0 level=3", "0 1", "", "doc(h[level=3])"}},
		{"doc(h[level=1]('a') p)", "attr 0 level=2", "attr 0 level=3", rebased{"attr 0 level=2", "0", "", "doc(h[level=2]('a') p)"}},
		{"doc(h[level=1]('a') p)", "attr 0 level=2 ; put 1 1 'x'", "put 0 3", rebased{"", "", "0 1", "doc(p)"}},
		{"doc(h[level=1]('a') p)", "attr 0 level=2", "put 0 3 (p )", rebased{"", "", "0", "doc(p p)"}},
		{"doc(h[level=1]('a') p)", "attr 0 level=2", "wrap 0 1 2 3 1 (p )", rebased{"", "", "0", "doc(p('a') p)"}},
		{"doc(h[level=1]('a') p)", "attr 0 level=2 ; put 1 2", "put 2 2 'b' ; put 4 4 /hr", rebased{"attr 0 level=2 ; put 1 2", "0 1", "", "doc(h[level=2]('b') hr p)"}},
		// Marks: what the others put within them has them, too.
		{pair, "mark 1 3 em ; bare 2 3 em", "put 2 2 'z'", rebased{"mark 1 4 em ; bare 3 4 em", "0 1", "", "doc(p('az'^em 'b') p('c'))"}},
		{pair, "mark 1 3 em", "mark 2 3 code", rebased{"mark 1 3 em", "0", "", "doc(p('a'^em 'b'^code) p('c'))"}},
		{pair, "mark 2 2 em", "put 1 1 'x'", rebased{"mark 3 3 em", "0", "", "doc(p('xab') p('c'))"}},
		{pair, "bare 1 2 em ; mark 5 6 em", "put 1 2", rebased{"mark 4 5 em", "1", "0", "doc(p('b') p('c'^em))"}},
		// What wraps, and what stands within it.
		{pair, "wrap 0 0 7 7 1 (li ) ; put 2 2 'x' ; put 1 1 (p )", "put 1 1 'z'", rebased{"wrap 0 0 8 8 1 (li ) ; put 3 3 'x' ; put 1 1 (p )", "0 1 2", "", "doc(li(p p('zxab') p('c')))"}},
		{pair, "wrap 0 0 7 7 1 (li ) ; put 2 2 'x'", "put 0 0 (p )", rebased{"put 3 3 'x'", "1", "0", "doc(p p('xab') p('c'))"}},
		{"doc(li(p('ab') p('c')))", "wrap 0 1 8 9 0 ; put 7 7 (p )", "put 0 0 (p )", rebased{"wrap 2 3 10 11 0 ; put 9 9 (p )", "0 1", "", "doc(p p('ab') p('c') p)"}},
	} {
		toldIs(t, pages(), x.doc, x.own, x.others, x.want)
	}
}

// toldIs fails unless own is rebased over others, done to doc, as want tells, and the rest is as told.
func toldIs(t testing.TB, s api.Schema, doc, own, others string, want rebased) {
	t.Helper()
	rebaseIs(t, s, tree(doc), many(own), many(others), want.all(), ok)
	asTold(t, s, tree(doc), many(own), many(others))
}

func TestRebaseByOtherSchemas(t *testing.T) {
	toldIs(t, books(), "top(sec(fig[alt=x,src=y]) sec)", "put 1 1 (par ) ; attr 3 alt=z ; put 2 2 'a'^b ; bare 2 3 b ; swap 2 3 'a'^sub", "put 0 0 (sec^note[by=q] ) ; attr 3 src=q",
		rebased{"put 3 3 (par ) ; attr 5 alt=z ; put 4 4 'a'^b ; bare 4 5 b ; swap 4 5 'a'^sub", "0 1 2 3 4", "", "top(sec^note[by=q] sec(par('a'^sub) fig[alt=z,src=q]) sec)"})
	toldIs(t, books(), "top(sec)", "put 0 2", "put 0 2", rebased{"", "", "0", "top"})
	toldIs(t, books(), "top", "put 0 0 (sec ) ; put 1 1 (par )", "put 0 0 (sec^note[by=x] )", rebased{"put 2 2 (sec ) ; put 3 3 (par )", "0 1", "", "top(sec^note[by=x] sec(par))"})
	toldIs(t, letters(), "doc(note[by=])", "wrap 0 1 1 2 0 ; put 0 0 'x'", "put 0 2", rebased{"wrap 0 0 0 0 0 ; put 0 0 'x'", "0 1", "", "doc('x')"})
	// A wrap around nothing has another map than the one around something had: what stands in it is not found again.
	toldIs(t, letters(), "doc('ab')", "wrap 0 0 2 2 1 (note[by=] ) ; put 1 1 'x'", "put 0 2", rebased{"wrap 0 0 0 0 1 (note[by=] ) ; put 2 2 'x'", "0 1", "", "doc(note[by=] 'x')"})
	toldIs(t, letters(), "doc('ab')", "wrap 0 0 2 2 1 (note[by=] ) ; put 1 1 'x'", "put 0 1", rebased{"wrap 0 0 1 1 1 (note[by=] ) ; put 1 1 'x'", "0 1", "", "doc(note[by=]('xb'))"})
}

// What one put in oneself is found again, wherever it went, and changed there (P13.3).
func TestWhatOnePutIsFoundAgain(t *testing.T) {
	t.Parallel()
	const typed, word = "put 2 2 'xyz' ; put 3 4 'Q' ; mark 2 4 em ; put 4 5 ; put 4 4 '!'", "put 4 4 (p ) ; put 5 5 'nw' ; put 6 6 'e' ; mark 5 7 em ; wrap 4 4 9 9 1 (li )"
	for _, x := range []struct {
		own, others string
		want        rebased
	}{
		{typed, "", rebased{typed, "0 1 2 3 4", "", "doc(p('a' 'xQ'^em '!b') p('c'))"}},
		{typed, "put 1 1 'mm'", rebased{"put 4 4 'xyz' ; put 5 6 'Q' ; mark 4 6 em ; put 6 7 ; put 6 6 '!'", "0 1 2 3 4", "", "doc(p('mma' 'xQ'^em '!b') p('c'))"}},
		{typed, "put 2 2 'mm'", rebased{"put 4 4 'xyz' ; put 5 6 'Q' ; mark 4 6 em ; put 6 7 ; put 6 6 '!'", "0 1 2 3 4", "", "doc(p('amm' 'xQ'^em '!b') p('c'))"}},
		{typed, "put 3 3 'mm'", rebased{typed, "0 1 2 3 4", "", "doc(p('a' 'xQ'^em '!bmm') p('c'))"}},
		{typed, "put 1 2", rebased{"put 1 1 'xyz' ; put 2 3 'Q' ; mark 1 3 em ; put 3 4 ; put 3 3 '!'", "0 1 2 3 4", "", "doc(p('xQ'^em '!b') p('c'))"}},
		{typed, "put 2 3", rebased{typed, "0 1 2 3 4", "", "doc(p('a' 'xQ'^em '!') p('c'))"}},
		{typed, "put 2 2 ) (p", rebased{"put 4 4 'xyz' ; put 5 6 'Q' ; mark 4 6 em ; put 6 7 ; put 6 6 '!'", "0 1 2 3 4", "", "doc(p('a') p('xQ'^em '!b') p('c'))"}},
		{typed, "put 3 5 ; mark 1 4 code", rebased{typed, "0 1 2 3 4", "", "doc(p('a'^code 'xQ'^em '!' 'bc'^code))"}},
		{typed, "wrap 0 0 4 4 1 (li ) ; put 0 0 /hr", rebased{"put 4 4 'xyz' ; put 5 6 'Q' ; mark 4 6 em ; put 6 7 ; put 6 6 '!'", "0 1 2 3 4", "", "doc(hr li(p('a' 'xQ'^em '!b')) p('c'))"}},
		{typed, "wrap 0 1 3 4 1 (h[level=1] ) ; put 1 1 'm' ; put 2 3", rebased{"put 2 2 'xyz' ; put 3 4 'Q' ; mark 2 4 em ; put 4 5 ; put 4 4 '!'", "0 1 2 3 4", "", "doc(h[level=1]('m' 'xQ'^em '!b') p('c'))"}},
		// It is gone with all that stood around it.
		{typed, "put 1 3", rebased{"", "", "0 1 2 3 4", "doc(p p('c'))"}},
		{typed, "put 0 4", rebased{"", "", "0 1 2 3 4", "doc(p('c'))"}},
		{word, "put 0 0 (p 'long' )", rebased{"put 10 10 (p ) ; put 11 11 'nw' ; put 12 12 'e' ; mark 11 13 em ; wrap 10 10 15 15 1 (li )", "0 1 2 3 4", "", "doc(p('long') p('ab') li(p('ne'^em 'w')) p('c'))"}},
		{word, "put 4 4 (p 'm' )", rebased{"put 7 7 (p ) ; put 8 8 'nw' ; put 9 9 'e' ; mark 8 10 em ; wrap 7 7 12 12 1 (li )", "0 1 2 3 4", "", "doc(p('ab') p('m') li(p('ne'^em 'w')) p('c'))"}},
		{word, "put 0 4", rebased{"put 0 0 (p ) ; put 1 1 'nw' ; put 2 2 'e' ; mark 1 3 em ; wrap 0 0 5 5 1 (li )", "0 1 2 3 4", "", "doc(li(p('ne'^em 'w')) p('c'))"}},
		{word, "put 4 7 ; put 0 0 /hr", rebased{"put 5 5 (p ) ; put 6 6 'nw' ; put 7 7 'e' ; mark 6 8 em ; wrap 5 5 10 10 1 (li )", "0 1 2 3 4", "", "doc(hr p('ab') li(p('ne'^em 'w')))"}},
		{word, "wrap 0 0 7 7 1 (li )", rebased{"put 5 5 (p ) ; put 6 6 'nw' ; put 7 7 'e' ; mark 6 8 em ; wrap 5 5 10 10 1 (li )", "0 1 2 3 4", "", "doc(li(p('ab') li(p('ne'^em 'w')) p('c')))"}},
	} {
		toldIs(t, pages(), pair, x.own, x.others, x.want)
	}
}

// The others' error is told ahead of one's own, and that ahead of too many of both.
func TestErrorsOfRebase(t *testing.T) {
	t.Parallel()
	l := func(s string, n int) []api.Step { return repeated(s, n) }
	x, bad, far := "put 1 1 'x'", "put 2 1", "put 1 9000"
	for _, c := range []struct {
		s           api.Schema
		doc         string
		own, others []api.Step
		e           api.Errno
	}{
		{pages(), "doc", nil, nil, shape}, {pages(), "doc", l(bad, 1), l(bad, 1), shape}, {pages(), "doc", l(x, 257), l(x, 257), shape}, {books(), pair, nil, nil, shape},
		{api.Schema{}, pair, nil, nil, arg}, {api.Schema{}, pair, l(x, 257), l(x, 257), arg}, {api.Schema{}, "doc", l(far, 1), l(far, 1), arg},
		// The others' steps.
		{pages(), pair, nil, l(x, 257), long}, {pages(), pair, l(bad, 1), l(x, 257), long}, {pages(), pair, l(far, 257), l(bad, 257), long},
		{pages(), pair, nil, l(bad, 1), arg}, {pages(), pair, nil, l(far, 1), place}, {pages(), pair, nil, many("put 1 4"), shape}, {pages(), pair, nil, many("attr 0 level=2"), none}, {pages(), pair, nil, many("attr 0 " + name17 + "=2"), long},
		{pages(), pair, l(bad, 1), l(far, 1), place}, {pages(), pair, many("put 1 4"), l(far, 1), place}, {pages(), pair, l(x, 257), l(far, 256), place}, {pages(), pair, l(x, 200), many(x + " ; " + far), place},
		// One's own.
		{pages(), pair, l(x, 257), nil, long}, {pages(), pair, l(bad, 257), l(x, 1), long}, {pages(), pair, l(bad, 1), nil, arg}, {pages(), pair, l(far, 1), l(x, 1), place}, {pages(), pair, many(x + " ; put 1 5"), l(x, 1), shape},
		{pages(), pair, l(bad, 200), nil, arg}, {pages(), pair, l(far, 129), l(x, 256), place}, {pages(), pair, append(l(x, 150), change(far)), nil, place}, {pages(), pair, append(l(x, 2), change(bad)), l(x, 256), arg},
		// Too many of both, one's own counting twice.
		{pages(), pair, l(x, 129), nil, long}, {pages(), pair, l(x, 256), nil, long}, {pages(), pair, l(x, 128), l(x, 1), long}, {pages(), pair, l(x, 1), l(x, 255), long}, {pages(), pair, l(x, 1), l(x, 256), long}, {pages(), pair, l(x, 100), l(x, 57), long}, {pages(), pair, l(x, 256), l(x, 256), long},
		// Steps that can be done to the document behind the others' alone: one's own begin at the same document as theirs.
		{pages(), pair, many("put 8 8 (p )"), many("put 1 1 'x'"), place},
	} {
		rebaseIs(t, c.s, tree(c.doc), c.own, c.others, api.Rebased{}, c.e)
	}
	for _, b := range badSchemas() {
		rebaseIs(t, b.s, tree(pair), l(far, 1), l(bad, 1), api.Rebased{}, b.e)
	}
}

type badSchema struct {
	s api.Schema
	e api.Errno
}

// badSchemas are schemas none of which may be, and their errors.
func badSchemas() []badSchema {
	less, many := pages(), pages()
	less.Types = less.Types[:6]
	many.Types = append(many.Types, make([]api.NodeType, 26)...)
	all := []badSchema{{api.Schema{}, arg}, {less, arg}, {many, long}}
	for _, x := range all {
		if schema.Check(x.s) != x.e {
			panic("other errors of the schemas")
		}
	}
	return all
}

// text is doc with p with these words.
func text(words string) api.Node {
	return doc(api.Node{Type: "p", Kids: []api.Node{{Type: "text", Text: words}}})
}

// So many steps may be rebased, and no more.
func TestRebaseOfMany(t *testing.T) {
	t.Parallel()
	for _, x := range []struct{ own, others int }{{128, 0}, {127, 2}, {100, 56}, {1, 254}, {0, 256}} {
		own, others := repeated("put 1 1 'x'", x.own), repeated("put 1 1 'y'", x.others)
		want := api.Rebased{Doc: text(strings.Repeat("y", x.others) + strings.Repeat("x", x.own) + "ab"), Steps: repeated("put 1 1 'x'", x.own)}
		for i := range own {
			// Where the first one comes to, the others of one's own that stand at its beginning come to, too.
			want.Steps[i].From, want.Steps[i].To = 1+x.others, 1+x.others
			want.Kept = append(want.Kept, i)
		}
		rebaseIs(t, pages(), text("ab"), own, others, want, ok)
		chains(t, pages(), text("ab"), own[:min(x.own, 40)], others, api.Rebased{Steps: want.Steps[:min(x.own, 40)], Kept: want.Kept[:min(x.own, 40)]})
	}
}

// All of one's own may be dropped, and each second one of them.
func TestManyDropped(t *testing.T) {
	t.Parallel()
	own, want := repeated("put 2 2 'x'", 100), api.Rebased{Doc: text("c")}
	for i := range own {
		want.Dropped = append(want.Dropped, i)
	}
	rebaseIs(t, pages(), text("abc"), own, many("put 1 3"), want, ok)
	own, want = nil, api.Rebased{Doc: text("c" + strings.Repeat("x", 50))}
	for i := range 50 {
		own = append(own, change("put 2 2 'y'"), api.Step{Kind: api.StepPut, From: 5 + 2*i, To: 5 + 2*i, Mid: tokens("'x'")})
		want.Steps = append(want.Steps, api.Step{Kind: api.StepPut, From: 2 + i, To: 2 + i, Mid: tokens("'x'")})
		want.Kept, want.Dropped = append(want.Kept, 2*i+1), append(want.Dropped, 2*i)
	}
	rebaseIs(t, pages(), text("abc"), own, many("put 1 3"), want, ok)
}

// The greatest document that may be: what would make it greater is dropped, and may be put where something went.
func TestRebaseOfTheGreatest(t *testing.T) {
	t.Parallel()
	most := times(tokens("/hr"), api.MaxDoc-2)
	n, _ := row.Make(pages(), most[1:])
	full, e := row.Make(pages(), most)
	if e != ok || node.Size(pages(), full) != api.MaxDoc {
		t.Fatal(e)
	}
	own, others := many("put 9 9 /hr ; put 9 10 ; put 20 21 ; put 30 30 /hr"), many("put 0 0 /hr")
	want := api.Rebased{Doc: full, Steps: many("put 21 22 ; put 31 31 /hr"), Kept: []int{2, 3}, Dropped: []int{0, 1}}
	rebaseIs(t, pages(), n, own, others, want, ok)
	rebaseIs(t, pages(), full, own, others, api.Rebased{}, long)
	rebaseIs(t, pages(), full, own, nil, api.Rebased{}, long)
	x, y := change("put 9 9 /hr"), change("put 20 20 /hr")
	commuteIs(t, pages(), n, x, y, api.Step{}, api.Step{}, false)
	commuteIs(t, pages(), n, x, change("put 20 21"), x, change("put 21 22"), true)
}
