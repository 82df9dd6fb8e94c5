package step_test

import (
	"slices"
	"strings"
	"testing"

	"copydesk/api"
	"copydesk/node"
	"copydesk/row"
	"copydesk/step"
)

// P11.1: Do, and what P11.4 tells of it: doIs asks for all of it.

// line is a document, a step, and the document or the error that it comes to.
type line struct{ doc, step, want string }

// errors are told by their names.
func errorOf(want string) (api.Errno, bool) {
	i := slices.Index(list("arg long none place shape"), want)
	if i < 0 {
		return ok, false
	}
	return []api.Errno{arg, long, none, place, shape}[i], true
}

func linesAre(t *testing.T, s api.Schema, lines []line) {
	t.Helper()
	may(t, s)
	for _, x := range lines {
		if e, is := errorOf(x.want); is {
			doIs(t, s, tree(x.doc), change(x.step), api.Node{}, e)
		} else {
			doIs(t, s, tree(x.doc), change(x.step), tree(x.want), ok)
		}
	}
}

const pair = "doc(p('ab') p('c'))"

func TestPut(t *testing.T) {
	linesAre(t, pages(), []line{
		// The examples.
		{pair, "put 3 5", "doc(p('abc'))"}, {pair, "put 1 3", "doc(p p('c'))"}, {pair, "put 1 4", "shape"},
		// Nothing, at each place.
		{pair, "put 0 0", pair}, {pair, "put 3 3", pair}, {pair, "put 7 7", pair}, {pair, "put 8 8", "place"}, {pair, "put 7 8", "place"}, {pair, "put 0 8", "place"}, {pair, "put 65536 65536", "place"}, {pair, "put 0 65536", "place"},
		// Bytes into texts, with other marks and the same.
		{pair, "put 1 1 'x'", "doc(p('xab') p('c'))"}, {pair, "put 2 2 'xy'", "doc(p('axyb') p('c'))"}, {pair, "put 3 3 'x'^em", "doc(p('ab' 'x'^em) p('c'))"}, {pair, "put 2 2 'x'^em", "doc(p('a' 'x'^em 'b') p('c'))"},
		{"doc(p('a'^em 'b'))", "put 2 2 'x'^em", "doc(p('ax'^em 'b'))"}, {"doc(p('a'^em 'b'))", "put 2 2 'x'", "doc(p('a'^em 'xb'))"}, {"doc(p('a' 'b'^em 'c'))", "put 2 3", "doc(p('ac'))"}, {"doc(p('a' br 'a'))", "put 2 3", "doc(p('aa'))"},
		// In the place of others.
		{pair, "put 1 3 'x'", "doc(p('x') p('c'))"}, {pair, "put 2 6 'x'", "doc(p('ax'))"}, {pair, "put 0 7 /hr", "doc(hr)"}, {pair, "put 0 4 /hr /hr", "doc(hr hr p('c'))"}, {pair, "put 0 7 (p 'ab' ) (p 'c' )", pair}, {pair, "put 4 7", "doc(p('ab'))"},
		// Nodes split, and put together.
		{pair, "put 2 2 ) (p", "doc(p('a') p('b') p('c'))"}, {pair, "put 4 4 (p )", "doc(p('ab') p p('c'))"}, {pair, "put 2 6", "doc(p('a'))"}, {pair, "put 3 5 ) /hr (p", "doc(p('ab') hr p('c'))"}, {pair, "put 0 1 (h[level=2]", "doc(h[level=2]('ab') p('c'))"},
		{pair, "put 0 1 (li (p", "shape"}, {pair, "put 7 7 )", "shape"}, {pair, "put 0 0 (p", "shape"}, {pair, "put 0 0 )", "shape"}, {pair, "put 3 4", "shape"}, {pair, "put 0 1", "shape"}, {pair, "put 0 1 )", "shape"}, {pair, "put 4 4 ) (p", "shape"},
		// Rows that are even, and no document.
		{pair, "put 0 7", "shape"}, {pair, "put 0 0 'x'", "shape"}, {pair, "put 7 7 /br", "shape"}, {pair, "put 2 2 /hr", "shape"}, {pair, "put 2 2 (p )", "shape"}, {pair, "put 0 1 (h[level=1]", "doc(h[level=1]('ab') p('c'))"}, {"doc(p('a'^code))", "put 0 1 (h[level=1]", "shape"},
		{"doc(p('a'^em))", "put 0 1 (h[level=1]", "doc(h[level=1]('a'^em))"}, {"doc(p(br))", "put 0 1 (h[level=1]", "shape"}, {pair, "put 0 0 /hr^em", "shape"}, {pair, "put 0 0 (p^em )", "shape"}, {"doc(h[level=1]('a'))", "put 1 2 'x'^code", "shape"}, {"doc(li(p))", "put 1 1 /hr", "shape"},
		{"doc(li(p hr))", "put 3 4", "doc(li(p))"}, {"doc(li(p hr))", "put 1 3", "shape"}, {"doc(li(p p))", "put 1 3", "doc(li(p))"}, {"doc(li(p))", "put 1 2 (li (p )", "shape"},
		// What may not be, by Check.
		{pair, "put 0 0 /zz", "arg"}, {pair, "put 3 2", "arg"}, {pair, "put 9 8", "arg"}, {pair, "put 99 99 /zz", "arg"},
	})
	linesAre(t, books(), []line{
		{"top", "put 0 0", "top"}, {"top", "put 0 0 (sec )", "top(sec)"}, {"top", "put 0 1", "place"}, {"top", "put 1 1", "place"}, {"top(sec)", "put 0 2", "top"}, {"top(sec)", "put 0 0 (sec^note[by=x] )", "top(sec^note[by=x] sec)"},
		{"top(sec(par('a' img[src=x] 'a')))", "put 3 4", "top(sec(par('aa')))"}, {"top(sec(par('a')))", "put 3 3 (foot (par 'b'^a[href=x,title=] ) )", "top(sec(par('a' foot(par('b'^a[href=x,title=])))))"}, {"top(sec(par('a')))", "put 3 3 (foot )", "shape"},
		{"top(sec)", "put 0 0 (sec^b )", "shape"}, {"top(sec)", "put 0 0 (sec^sup^b )", "shape"}, {"top(sec)", "put 0 0 (sec^b^sub )", "arg"},
	})
	// A top that is a leaf.
	linesAre(t, small("doc:"), []line{{"doc", "put 0 0", "doc"}, {"doc", "put 0 0 'a'", "shape"}, {"doc", "put 0 1", "place"}, {"doc", "put 1 1", "place"}})
}

func TestWrap(t *testing.T) {
	linesAre(t, pages(), []line{
		{pair, "wrap 0 0 7 7 1 (li )", "doc(li(p('ab') p('c')))"}, {pair, "wrap 0 0 4 4 1 (li )", "doc(li(p('ab')) p('c'))"}, {pair, "wrap 4 4 7 7 1 (li )", "doc(p('ab') li(p('c')))"},
		{"doc(li(p('ab') p('c')))", "wrap 0 1 8 9 0", pair}, {"doc(li(p hr))", "wrap 0 1 4 5 1 (p )", "shape"}, {"doc(li(p('ab') p('c')))", "wrap 0 1 8 9 2 (li (p ) )", "shape"},
		// Another type around what stays.
		{pair, "wrap 0 1 3 4 1 (h[level=3] )", "doc(h[level=3]('ab') p('c'))"}, {"doc(h[level=2]('ab'))", "wrap 0 1 3 4 1 (p )", "doc(p('ab'))"}, {"doc(p('a'^code))", "wrap 0 1 2 3 1 (h[level=3] )", "shape"},
		// Mid ahead of what stays alone, behind it alone, around it by more than one token.
		{pair, "wrap 1 1 3 3 0", pair}, {pair, "wrap 1 1 3 3 1 'x'", "doc(p('xab') p('c'))"}, {pair, "wrap 1 1 3 3 0 'x'", "doc(p('abx') p('c'))"}, {pair, "wrap 1 1 3 3 2 'xyz'", "doc(p('xyabz') p('c'))"}, {pair, "wrap 1 1 3 3 1 'xyz'", "doc(p('xabyz') p('c'))"},
		{pair, "wrap 0 0 4 4 3 (p ) (li ) /hr", "doc(p li(p('ab')) hr p('c'))"}, {pair, "wrap 0 0 4 4 2 /hr (li ) /hr", "doc(hr li(p('ab')) hr p('c'))"}, {pair, "wrap 4 4 7 7 2 (li (li ) )", "shape"}, {pair, "wrap 4 4 7 7 4 (li (p ) (li ) )", "doc(p('ab') li(p li(p('c'))))"},
		// Tokens go on one side, or on both.
		{pair, "wrap 1 2 3 3 0", "doc(p('b') p('c'))"}, {pair, "wrap 1 1 2 3 0", "doc(p('a') p('c'))"}, {pair, "wrap 1 2 2 3 0", "doc(p p('c'))"}, {"doc(p('abcdef'))", "wrap 2 3 5 6 1 'xy'", "doc(p('axcdyf'))"}, {"doc(p('abcdef'))", "wrap 1 3 4 7 1 'xyz'", "doc(p('xcyz'))"},
		// Nothing stays.
		{pair, "wrap 1 3 3 3 0", "doc(p p('c'))"}, {pair, "wrap 1 3 3 3 1 'xy'", "doc(p('xy') p('c'))"}, {pair, "wrap 1 1 1 1 1 'xy'", "doc(p('xyab') p('c'))"}, {pair, "wrap 0 0 0 7 0 /hr", "doc(hr)"}, {pair, "wrap 7 7 7 7 0", pair}, {pair, "wrap 0 7 7 7 0", "shape"}, {pair, "wrap 0 0 0 0 1 /hr", "doc(hr p('ab') p('c'))"},
		// Places that are none: To alone, End, Gap, all.
		{pair, "wrap 0 0 7 8 0", "place"}, {pair, "wrap 0 0 8 8 0", "place"}, {pair, "wrap 0 8 8 8 0", "place"}, {pair, "wrap 8 8 8 8 0", "place"}, {pair, "wrap 7 7 7 8 0", "place"}, {pair, "wrap 0 0 0 65536 0", "place"}, {pair, "wrap 0 0 7 8 1 (li )", "place"},
		{pair, "wrap 0 0 7 7 2 (li )", "shape"}, {pair, "wrap 0 0 7 7 0 (li )", "shape"}, {pair, "wrap 0 0 7 7 1 (p )", "shape"}, {pair, "wrap 0 0 7 7 1 (li", "shape"}, {pair, "wrap 0 0 7 7 1 (li ) )", "shape"}, {pair, "wrap 0 0 7 7 1 (hr )", "arg"}, {pair, "wrap 0 0 7 7 3 (li )", "arg"}, {pair, "wrap 0 2 1 7 0", "arg"},
	})
}

func TestMark(t *testing.T) {
	linesAre(t, pages(), []line{
		{pair, "mark 0 7 em", "doc(p('ab'^em) p('c'^em))"}, {pair, "mark 0 0 em", pair}, {pair, "mark 7 7 em", pair}, {pair, "mark 2 2 em", pair}, {pair, "mark 1 2 em", "doc(p('a'^em 'b') p('c'))"}, {pair, "mark 2 3 em", "doc(p('a' 'b'^em) p('c'))"},
		{pair, "mark 2 6 em", "doc(p('a' 'b'^em) p('c'^em))"}, {pair, "mark 3 5 em", pair}, {pair, "mark 0 1 em", pair}, {pair, "mark 0 2 em", "doc(p('a'^em 'b') p('c'))"}, {pair, "mark 6 7 em", pair}, {pair, "mark 5 6 em", "doc(p('ab') p('c'^em))"},
		{pair, "mark 0 8 em", "place"}, {pair, "mark 8 8 em", "place"}, {pair, "mark 8 9 em", "place"}, {pair, "mark 0 65536 em", "place"}, {pair, "mark 3 2 em", "arg"}, {pair, "mark 0 7 zz", "arg"}, {pair, "mark 0 8 zz", "arg"},
		// What is added takes the place of others, or is kept out by them.
		{"doc(p('ab'^em 'c'))", "mark 2 4 code", "doc(p('a'^em 'bc'^code))"}, {"doc(p('ab'^code 'c'))", "mark 2 4 em", "doc(p('ab'^code 'c'^em))"}, {"doc(p('a'^em 'b' 'c'^em))", "mark 2 3 em", "doc(p('abc'^em))"}, {"doc(p('a'^em 'b' 'c'^code))", "mark 0 5 em", "doc(p('ab'^em 'c'^code))"},
		{"doc(p('a'^em 'b' 'c'^code 'd'))", "mark 0 6 code", "doc(p('abcd'^code))"},
		// Leaves that are Inline, and those that are none.
		{"doc(p(br 'a' br) hr)", "mark 0 6 em", "doc(p(br^em 'a'^em br^em) hr)"}, {"doc(p(br 'a' br) hr)", "mark 3 6 em", "doc(p(br 'a' br^em) hr)"}, {"doc(p(br 'a' br) hr)", "mark 2 2 em", "doc(p(br 'a' br) hr)"}, {"doc(hr hr)", "mark 0 2 em", "doc(hr hr)"},
		{"doc(p('a'^em br^em br))", "mark 0 5 code", "doc(p('a'^code br^code br^code))"},
		// The node that it stands in allows it, wherever that begins.
		{"doc(h[level=1]('a') p('b') h[level=1]('c'))", "mark 0 9 code", "doc(h[level=1]('a') p('b'^code) h[level=1]('c'))"}, {"doc(h[level=1]('a') p('b') h[level=1]('c'))", "mark 0 9 em", "doc(h[level=1]('a'^em) p('b'^em) h[level=1]('c'^em))"},
		{"doc(h[level=1]('ab') p('b'))", "mark 2 6 code", "doc(h[level=1]('ab') p('b'^code))"}, {"doc(p('ab') h[level=1]('b'))", "mark 2 6 code", "doc(p('a' 'b'^code) h[level=1]('b'))"}, {"doc(p('abc'))", "mark 3 4 code", "doc(p('ab' 'c'^code))"}, {"doc(h[level=1]('abc'))", "mark 3 4 code", "doc(h[level=1]('abc'))"},
		{"doc(h[level=1]('a'^em))", "mark 1 2 code", "doc(h[level=1]('a'^em))"}, {"doc(li(p('a') h[level=]('b') p('c')) p('d'))", "mark 0 13 code", "doc(li(p('a'^code) h[level=]('b') p('c'^code)) p('d'^code))"}, {"doc(li(p h[level=]('b') p('c')))", "mark 4 8 code", "doc(li(p h[level=]('b') p('c'^code)))"},
		{"doc(h[level=] h[level=] p('c'))", "mark 0 6 code", "doc(h[level=] h[level=] p('c'^code))"},
	})
	linesAre(t, books(), []line{
		// Marks with attributes: one of the same type goes, those that exclude one another either way.
		{"top(sec(par('a'^a[href=x,title=] 'b'^a[href=y,title=]^b 'c')))", "mark 3 5 a[href=x,title=]", "top(sec(par('a'^a[href=x,title=] 'b'^a[href=x,title=]^b 'c'^a[href=x,title=])))"},
		{"top(sec(par('a'^sub^b 'b'^sup)))", "mark 2 4 sup", "top(sec(par('a'^sup^b 'b'^sup)))"}, {"top(sec(par('a' img[src=] 'b')))", "mark 2 5 b", "top(sec(par('a'^b img[src=]^b 'b'^b)))"}, {"top(sec(par('a')))", "mark 0 5 note[by=]", "top(sec(par('a')))"},
		// What is Inline and no leaf has none added, what stands in it has.
		{"top(sec(par('a' foot(par('b') par) 'c')))", "mark 0 12 b", "top(sec(par('a'^b foot(par('b'^b) par) 'c'^b)))"}, {"top(sec(par('a' foot^b(par('b')))))", "mark 3 7 sub", "top(sec(par('a' foot^b(par('b'^sub)))))"},
		// What is a leaf and not Inline, and what begins a node, has none added, though it is allowed there.
		{"top(sec(hr par(img[src=])))", "mark 0 6 sub", "top(sec(hr par(img[src=]^sub)))"}, {"top(sec(hr par))", "mark 0 5 note[by=]", "top(sec(hr par))"}, {"top(sec sec)", "mark 0 4 note[by=]", "top(sec sec)"},
	})
	linesAre(t, letters(), []line{
		// The top allows it, what is Inline in it does not.
		{"doc('a' note[by=]('b' dot[a=,b=]) 'c' dot[a=,b=])", "mark 0 7 em", "doc('a'^em note[by=]('b' dot[a=,b=]) 'c'^em dot[a=,b=]^em)"}, {"doc('a' note[by=]('b' note[by=]) 'c')", "mark 3 7 em", "doc('a' note[by=]('b' note[by=]) 'c'^em)"}, {"doc(note[by=]('b') 'cd')", "mark 4 5 em", "doc(note[by=]('b') 'c' 'd'^em)"},
		{"doc", "mark 0 0 em", "doc"}, {"doc", "mark 0 1 em", "place"}, {"doc('ab')", "mark 0 2 em", "doc('ab'^em)"}, {"doc(note[by=]('b' note[by=]('c')))", "mark 0 6 em", "doc(note[by=]('b' note[by=]('c')))"},
	})
}

// What a set of marks hangs on is nothing of the types: of no others than the top and text, in whatever order these stand.
func TestMarkBySmallSchemas(t *testing.T) {
	marks := []api.MarkType{{Name: "em"}, {Name: "b", Attrs: specs("a"), Excludes: list("em")}}
	top, words := api.NodeType{Name: "zz", Content: "text*", Marks: list("b em")}, api.NodeType{Name: "text", Inline: true}
	for _, types := range [][]api.NodeType{{top, words}, {top, words, {Name: "dot", Inline: true}}, {top, {Name: "a"}, words}} {
		linesAre(t, api.Schema{Types: types, Marks: marks}, []line{
			{"zz('abc')", "mark 1 2 em", "zz('a' 'b'^em 'c')"}, {"zz('ab'^em 'c')", "mark 1 3 b[a=x]", "zz('a'^em 'bc'^b[a=x])"}, {"zz('ab'^b[a=x] 'c')", "mark 0 3 em", "zz('ab'^b[a=x] 'c'^em)"}, {"zz('ab'^b[a=x] 'c')", "mark 1 3 b[a=y]", "zz('a'^b[a=x] 'bc'^b[a=y])"},
			{"zz('ab'^b[a=x] 'c'^em)", "bare 0 3 b[a=x]", "zz('ab' 'c'^em)"}, {"zz('ab'^b[a=x] 'c'^em)", "bare 0 3 b[a=y]", "zz('ab'^b[a=x] 'c'^em)"}, {"zz", "mark 0 0 em", "zz"},
		})
	}
}

func TestBare(t *testing.T) {
	linesAre(t, pages(), []line{
		{"doc(p('ab'^em) p('c'^em))", "bare 0 7 em", pair}, {"doc(p('ab'^em) p('c'^em))", "bare 2 5 em", "doc(p('a'^em 'b') p('c'^em))"}, {"doc(p('ab'^em) p('c'^em))", "bare 2 6 em", "doc(p('a'^em 'b') p('c'))"}, {"doc(p('ab'^em) p('c'^em))", "bare 0 7 code", "doc(p('ab'^em) p('c'^em))"},
		{"doc(p('ab'^em))", "bare 2 2 em", "doc(p('ab'^em))"}, {"doc(p('a'^em 'b'^code br^em br^code))", "bare 0 6 em", "doc(p('a' 'b'^code br br^code))"}, {"doc(p('a'^em 'b'^code br^em br^code))", "bare 0 6 code", "doc(p('a'^em 'b' br^em br))"}, {"doc(p('a'^em 'b' 'c'^em))", "bare 1 2 em", "doc(p('ab' 'c'^em))"},
		{pair, "bare 0 7 em", pair}, {pair, "bare 0 8 em", "place"}, {pair, "bare 8 8 em", "place"}, {pair, "bare 8 9 em", "place"}, {pair, "bare 0 7 zz", "arg"}, {pair, "bare 5 4 em", "arg"}, {"doc(hr hr)", "bare 0 2 em", "doc(hr hr)"},
		{"doc(h[level=1]('a'^em) p('b'^em))", "bare 0 6 em", "doc(h[level=1]('a') p('b'))"},
	})
	linesAre(t, books(), []line{
		// That which is the same goes, its attributes too; what begins a node, or is no Inline leaf, keeps it.
		{"top(sec(par('a'^a[href=x,title=] 'b'^a[href=y,title=]^b)))", "bare 0 6 a[href=x,title=]", "top(sec(par('a' 'b'^a[href=y,title=]^b)))"}, {"top(sec(par('a'^a[href=x,title=] 'b'^a[href=y,title=]^b)))", "bare 0 6 b", "top(sec(par('a'^a[href=x,title=] 'b'^a[href=y,title=])))"},
		{"top(sec(par('a'^a[href=x,title=] 'b'^a[href=y,title=]^b)))", "bare 0 6 a[href=x,title=z]", "top(sec(par('a'^a[href=x,title=] 'b'^a[href=y,title=]^b)))"},
		{"top(sec^note[by=x](hr^sub par^sub('a'^sub img[src=]^sub^b)))", "bare 0 7 sub", "top(sec^note[by=x](hr^sub par^sub('a' img[src=]^b)))"}, {"top(sec^note[by=x](hr^note[by=x] par))", "bare 0 5 note[by=x]", "top(sec^note[by=x](hr^note[by=x] par))"},
		{"top(sec(par(foot^b(par('b'^b)) 'c'^b)))", "bare 0 10 b", "top(sec(par(foot^b(par('b')) 'c')))"},
	})
}

func TestAttr(t *testing.T) {
	linesAre(t, pages(), []line{
		{"doc(h[level=1]('a') hr)", "attr 0 level=2", "doc(h[level=2]('a') hr)"}, {"doc(h[level=1]('a') hr)", "attr 0 level=", "doc(h[level=]('a') hr)"}, {"doc(h[level=1]('a') hr)", "attr 0 level=1", "doc(h[level=1]('a') hr)"}, {"doc(h[level=1]('a') hr)", "attr 0 level=" + strings.Repeat("~", 64), "doc(h[level=" + strings.Repeat("~", 64) + "]('a') hr)"},
		{"doc(p h[level=1])", "attr 2 level=x", "doc(p h[level=x])"}, {"doc(h[level=1] h[level=1])", "attr 2 level=x", "doc(h[level=1] h[level=x])"},
		// No such token: a byte, what ends a node, none; no such attribute.
		{"doc(h[level=1]('a') hr)", "attr 1 level=2", "place"}, {"doc(h[level=1]('a') hr)", "attr 2 level=2", "place"}, {"doc(h[level=1]('a') hr)", "attr 4 level=2", "place"}, {"doc(h[level=1]('a') hr)", "attr 5 level=2", "place"}, {"doc(h[level=1]('a') hr)", "attr 65536 level=2", "place"},
		{"doc(h[level=1]('a') hr)", "attr 3 level=2", "none"}, {"doc(h[level=1]('a') hr)", "attr 0 levels=2", "none"}, {"doc(h[level=1]('a') hr)", "attr 0 a=", "none"}, {"doc(h[level=1]('a') hr)", "attr 0 z=", "none"}, {pair, "attr 0 level=2", "none"}, {"doc(p(br))", "attr 1 level=2", "none"}, {pair, "attr 1 levels=2", "place"},
		{"doc(h[level=1]('a') hr)", "attr 0 Level=2", "arg"}, {"doc(h[level=1]('a') hr)", "attr 9 =2", "arg"}, {"doc(h[level=1]('a') hr)", "attr 9 level=\n", "arg"}, {"doc(h[level=1]('a') hr)", "attr 0 level=" + strings.Repeat("~", 65), "long"}, {"doc(h[level=1]('a') hr)", "attr 9 " + name17 + "=2", "long"},
	})
	linesAre(t, books(), []line{
		{"top(sec(fig[alt=x,src=y]^note[by=q](par) par(img[src=a]^b)))", "attr 1 src=z", "top(sec(fig[alt=x,src=z]^note[by=q](par) par(img[src=a]^b)))"}, {"top(sec(fig[alt=x,src=y]^note[by=q](par) par(img[src=a]^b)))", "attr 1 alt=z", "top(sec(fig[alt=z,src=y]^note[by=q](par) par(img[src=a]^b)))"},
		{"top(sec(fig[alt=x,src=y]^note[by=q](par) par(img[src=a]^b)))", "attr 6 src=z", "top(sec(fig[alt=x,src=y]^note[by=q](par) par(img[src=z]^b)))"}, {"top(sec(fig[alt=x,src=y]^note[by=q](par) par(img[src=a]^b)))", "attr 1 by=z", "none"}, {"top", "attr 0 src=z", "place"},
	})
	linesAre(t, letters(), []line{{"doc(dot[a=,b=1]^em)", "attr 0 b=2", "doc(dot[a=,b=2]^em)"}, {"doc(dot[a=,b=1]^em)", "attr 0 c=2", "none"}, {"doc(dot[a=,b=1]^em)", "attr 1 b=2", "place"}})
}

func TestSwap(t *testing.T) {
	linesAre(t, pages(), []line{
		{pair, "swap 1 3 'a'^em 'b'", "doc(p('a'^em 'b') p('c'))"}, {pair, "swap 1 3 'ab'^code", "doc(p('ab'^code) p('c'))"}, {"doc(p('ab'^em) p('c'))", "swap 1 3 'a' 'b'", pair}, {"doc(p('ab'^em) p('c'))", "swap 2 3 'b'^code", "doc(p('a'^em 'b'^code) p('c'))"}, {"doc(p(br^em))", "swap 1 2 /br^code", "doc(p(br^code))"},
		{pair, "swap 0 7 (p 'ab'^em ) (p 'c' )", "doc(p('ab'^em) p('c'))"}, {pair, "swap 3 5 ) (p", pair}, {pair, "swap 0 0", pair}, {pair, "swap 7 7", pair}, {pair, "swap 3 3", pair}, {"doc(p('a'^em 'b'))", "swap 2 3 'b'^em", "doc(p('ab'^em))"},
		// One that is unlike, at the beginning, at the end.
		{pair, "swap 1 3 'b'^em 'b'", "place"}, {pair, "swap 1 3 'a'^em 'a'", "place"}, {pair, "swap 1 2 /br", "place"}, {pair, "swap 0 1 (h[level=1]", "place"}, {pair, "swap 0 1 (li", "place"}, {pair, "swap 0 1 )", "place"}, {pair, "swap 3 4 (p", "place"}, {"doc(h[level=1])", "swap 0 1 (h[level=2]", "place"}, {"doc(hr)", "swap 0 1 /br", "place"},
		{"doc(h[level=1]('a'))", "swap 0 2 (h[level=1] 'a'^em", "doc(h[level=1]('a'^em))"}, {"doc(h[level=1]('a'))", "swap 0 2 (h[level=] 'a'^em", "place"},
		// Places that are none.
		{pair, "swap 7 8 'a'", "place"}, {pair, "swap 6 8 ) (p", "place"}, {pair, "swap 8 8", "place"}, {pair, "swap 65536 65536", "place"}, {pair, "swap 1 2 'a'^em^code", "arg"}, {pair, "swap 1 3 'a'", "arg"},
		// Marks that may not be there.
		{pair, "swap 0 1 (p^em", "shape"}, {"doc(hr)", "swap 0 1 /hr^em", "shape"}, {"doc(h[level=1]('a'))", "swap 1 2 'a'^code", "shape"}, {"doc(h[level=1]('a'))", "swap 1 2 'b'^code", "place"},
	})
	linesAre(t, books(), []line{
		{"top(sec(hr^sub par))", "swap 1 3 /hr^note[by=x] (par^sub", "top(sec(hr^note[by=x] par^sub))"}, {"top(sec(par(img[src=x]^b)))", "swap 2 3 /img[src=x]^sup^a[href=,title=]", "top(sec(par(img[src=x]^sup^a[href=,title=])))"}, {"top(sec(par(img[src=x]^b)))", "swap 2 3 /img[src=y]^b", "place"},
		{"top(sec(par(foot^b(par))))", "swap 2 3 (foot^sub", "top(sec(par(foot^sub(par))))"}, {"top(sec(par('a'^a[href=x,title=])))", "swap 2 3 'a'^a[href=y,title=]", "top(sec(par('a'^a[href=y,title=])))"}, {"top(sec)", "swap 0 1 (sec^note[by=]", "top(sec^note[by=])"}, {"top(sec)", "swap 0 1 (sec^b", "shape"},
	})
}

// Rows and documents that are as long as may be, and those that are longer.
func TestDoOfMaxDoc(t *testing.T) {
	t.Parallel()
	s, most := pages(), api.MaxDoc-2 // tokens of a row whose document is of MaxDoc
	lines := func(n int) []api.Token { return times(tokens("/hr"), n) }
	full, e := row.Make(s, lines(most))
	if e != ok || node.Size(s, full) != api.MaxDoc {
		t.Fatal(e)
	}
	half, _ := row.Make(s, lines(most/2))
	for _, x := range []struct {
		n        api.Node
		from, to int
		came     int
		e        api.Errno
	}{
		{full, 0, 0, 0, ok}, {full, 0, 0, 1, long}, {full, 0, 1, 1, ok}, {full, 0, 1, 2, long}, {full, 9, 9, 2, long}, {full, 9, 9, 3, long}, {full, 0, most, most, ok}, {full, 0, most, most + 1, long}, {full, 0, most, most + 2, long},
		{half, 5, 5, most - most/2, ok}, {half, 5, 5, most - most/2 + 1, long}, {half, 5, 5, most - most/2 + 3, long}, {half, 0, 0, api.MaxDoc, long}, {half, 0, 0, api.MaxDoc + 1, long},
	} {
		put := api.Step{Kind: api.StepPut, From: x.from, To: x.to, Mid: lines(x.came)}
		wrap := api.Step{Kind: api.StepWrap, From: x.from, Gap: x.to, End: x.to, To: x.to, Insert: x.came / 2, Mid: put.Mid}
		for _, c := range []api.Step{put, wrap} {
			if got, e := step.Do(s, x.n, c); e != x.e || e == ok && node.Size(s, got) != node.Size(s, x.n)+x.came-x.to+x.from || e != ok && !alike(got, api.Node{}) {
				t.Errorf("%d tokens from %d to %d: error %d, size %d", x.came, x.from, x.to, e, node.Size(s, got))
			}
			if u, e := step.Undo(s, x.n, c); e != x.e || e == ok && (len(u.Mid) != x.to-x.from || u.To != x.from+x.came) {
				t.Errorf("%d tokens from %d to %d: Undo error %d, %d tokens", x.came, x.from, x.to, e, len(u.Mid))
			}
		}
	}
	// One side alone would be too long: both together are not.
	both := api.Step{Kind: api.StepWrap, From: 0, Gap: 9, End: 20, To: 20, Insert: 1, Mid: lines(9)}
	if got, e := step.Do(s, full, both); e != ok || node.Size(s, got) != api.MaxDoc {
		t.Errorf("as much ahead of what stays as goes behind it: error %d", e)
	}
	both = api.Step{Kind: api.StepWrap, From: 0, Gap: 0, End: 11, To: 20, Insert: 9, Mid: lines(9)}
	if got, e := step.Do(s, full, both); e != ok || node.Size(s, got) != api.MaxDoc {
		t.Errorf("as much behind what stays as goes ahead of it: error %d", e)
	}
	// The row is told to be too long ahead of what is no document; a row that may be, and is no document, is not.
	for came, want := range map[int]api.Errno{1: shape, 2: shape, 3: long} {
		doIs(t, s, full, api.Step{Kind: api.StepPut, Mid: times(tokens("(p"), came)}, api.Node{}, want)
	}
	all, e := step.Do(s, full, api.Step{Kind: api.StepMark, To: most, Mark: api.Mark{Type: "em"}})
	if e != ok || !alike(all, full) {
		t.Errorf("mark of all: error %d", e)
	}
	if u, e := step.Undo(s, full, api.Step{Kind: api.StepBare, To: most, Mark: api.Mark{Type: "em"}}); e != ok || !equal(u.Mid, lines(most)) {
		t.Errorf("bare of all, undone: error %d", e)
	}
}

func TestDoOfMaxDeep(t *testing.T) {
	s := pages()
	deep := doc(nested(13)) // doc, li, p and its text: as deep as may be
	if node.Deep(deep) != api.MaxDeep || node.Document(s, deep) != ok {
		t.Fatal(node.Deep(deep))
	}
	l, _ := row.Of(s, deep)
	around := api.Step{Kind: api.StepWrap, End: len(l), To: len(l), Insert: 3, Mid: tokens("(li (p ) )")}
	doIs(t, s, deep, around, api.Node{}, long)
	doIs(t, s, doc(nested(12)), change("wrap 0 0 53 53 3 (li (p ) )"), api.Node{}, place)
	n := doc(nested(12))
	l, _ = row.Of(s, n)
	around.End, around.To = len(l), len(l)
	doIs(t, s, n, around, deep, ok)
}
