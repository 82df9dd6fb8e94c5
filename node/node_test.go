package node_test

import (
	"strconv"
	"strings"
	"testing"

	"copydesk/api"
	"copydesk/node"
)

// shape is a node, and what Check and Document tell of it.
type shape struct {
	node     string
	check    api.Errno
	document api.Errno
}

const (
	ok    = api.OK
	wrong = api.ErrShape
	long  = api.ErrLong
)

// shapes are nodes of the pages.
func shapes() []shape {
	return []shape{
		{"doc(p)", ok, ok},
		{"doc(hr)", ok, ok},
		{"doc(h[level=1])", ok, ok},
		{"doc(h[level=22]('a'))", ok, ok},
		{"doc(p('a' br 'b') hr li(p('c') p) li(p hr li(p)))", ok, ok},
		{"doc(p('a'^em 'b' 'c'^code 'd'^em))", ok, ok},
		{"doc(p(br br 'a' br^em br^em 'a'))", ok, ok},
		{"doc(p('a' br 'b'))", ok, ok},
		{"doc(p p p)", ok, ok},

		// Nodes that are no documents.
		{"p", ok, wrong},
		{"hr", ok, wrong},
		{"br", ok, wrong},
		{"'a'", ok, wrong},
		{"'a'^em", ok, wrong},
		{"p^em", ok, wrong},
		{"hr^code", ok, wrong},
		{"li(p)", ok, wrong},
		{"doc^em(p)", ok, wrong},
		{"doc^code(p)", ok, wrong},

		// Types that are none.
		{"zz", wrong, wrong},
		{"''(p)", wrong, wrong},
		{"block", wrong, wrong},
		{"em", wrong, wrong},
		{"Doc(p)", wrong, wrong},
		{"doc(zz)", wrong, wrong},
		{"doc(p zz)", wrong, wrong},
		{"doc(block)", wrong, wrong},
		{"p('a' zz)", wrong, wrong},
		{name17, wrong, wrong},
		{"[a=1](p)", wrong, wrong},

		// Attributes that do not fit.
		{"doc(h)", wrong, wrong},
		{"doc(h[level=])", ok, ok},
		{"doc(h[level=\x1f])", wrong, wrong},
		{"doc(h[level=" + strings.Repeat("1", 64) + "])", ok, ok},
		{"doc(h[level=" + strings.Repeat("1", 65) + "])", wrong, wrong},
		{"doc(h[a=1])", wrong, wrong},
		{"doc(h[level=1,level=1])", wrong, wrong},
		{"doc(h[a=1,level=1])", wrong, wrong},
		{"doc(h[level=1,z=1])", wrong, wrong},
		{"doc(p[level=1])", wrong, wrong},
		{"doc(hr[level=1])", wrong, wrong},
		{"doc[level=1](p)", wrong, wrong},
		{"p(br[a=])", wrong, wrong},

		// Marks that are no set, and those that a parent does not allow.
		{"p('a'^code^em)", wrong, wrong},
		{"p('a'^em^code)", wrong, wrong},
		{"p('a'^em^em)", wrong, wrong},
		{"p('a'^zz)", wrong, wrong},
		{"p('a'^)", wrong, wrong},
		{"p('a'^em[a=1])", wrong, wrong},
		{"'a'^em^code", wrong, wrong},
		{"doc^em^em(p)", wrong, wrong},
		{"doc^zz(p)", wrong, wrong},
		{"h[level=1]('a'^em)", ok, wrong},
		{"h[level=1]('a'^code)", wrong, wrong},
		{"h[level=1]('a' 'b'^code)", wrong, wrong},
		{"p(br^code)", ok, wrong},
		{"p(br^zz)", wrong, wrong},
		{"doc(p^em)", wrong, wrong},
		{"doc(p hr^em)", wrong, wrong},
		{"li(p^em)", wrong, wrong},
		{"doc(li(p p^code))", wrong, wrong},

		// Kids: too few, too many, in another order, of another kind.
		{"doc", wrong, wrong},
		{"li", wrong, wrong},
		{"doc(li)", wrong, wrong},
		{"doc(p li)", wrong, wrong},
		{"li(hr p)", wrong, wrong},
		{"li(h[level=1] p)", wrong, wrong},
		{"li(li(p) p)", wrong, wrong},
		{"doc(doc(p))", wrong, wrong},
		{"doc('a')", wrong, wrong},
		{"doc(p 'a')", wrong, wrong},
		{"doc(br)", wrong, wrong},
		{"p(p)", wrong, wrong},
		{"p('a' p)", wrong, wrong},
		{"h[level=1](br)", wrong, wrong},
		{"h[level=1]('a' br)", wrong, wrong},
		{"hr(p)", wrong, wrong},
		{"hr('a')", wrong, wrong},
		{"p(br(br))", wrong, wrong},

		// Texts, and Text on what is none.
		{"''", wrong, wrong},
		{"p('')", wrong, wrong},
		{"p('a' br '')", wrong, wrong},
		{"''^em", wrong, wrong},
		{"text", wrong, wrong},
		{"' '", ok, wrong},
		{"'~'", ok, wrong},
		{"' !~}a0Z'", ok, wrong},
		{"'\x1f'", wrong, wrong},
		{"'\x7f'", wrong, wrong},
		{"'\x00'", wrong, wrong},
		{"'\n'", wrong, wrong},
		{"'\xff'", wrong, wrong},
		{"'a\x1f'", wrong, wrong},
		{"'\x7fa'", wrong, wrong},
		{"'ab\u00e4'", wrong, wrong},
		{"'a'[a=1]", wrong, wrong},
		{"'a'[level=1]", wrong, wrong},
		{"'a'('b')", wrong, wrong},
		{"'a'(br)", wrong, wrong},
		{"'a'(zz)", wrong, wrong},
		{"p'a'", wrong, wrong},
		{"doc(p' ')", wrong, wrong},
		{"doc'a'(p)", wrong, wrong},
		{"hr'a'", wrong, wrong},
		{"p(br'a')", wrong, wrong},
		{"zz'a'", wrong, wrong},

		// Texts side by side.
		{"p('a' 'b')", wrong, wrong},
		{"p('a'^em 'b'^em)", wrong, wrong},
		{"p(br 'a' 'a')", wrong, wrong},
		{"p('a'^em 'b' 'c')", wrong, wrong},
		{"p('a' 'b'^em 'c')", ok, wrong},
		{"p('a'^em 'b'^code)", ok, wrong},
		{"doc(p('a') p('a'))", ok, ok},
		{"doc(p(br br))", ok, ok},
		{"doc(h[level=1]('a' 'b'))", wrong, wrong},
	}
}

// bookShapes are nodes of the books.
func bookShapes() []shape {
	return []shape{
		{"top(sec)", ok, ok},
		{"top(sec sec sec)", ok, ok},
		{"top(head sec)", ok, ok},
		{"top", wrong, wrong},
		{"top(head)", wrong, wrong},
		{"top(sec head)", wrong, wrong},
		{"top(head head sec)", wrong, wrong},
		{"head('a' 'b'^b 'c')", ok, wrong},
		{"head('a' 'b'^b 'c' 'd'^b)", wrong, wrong},
		{"rows[kind=]", wrong, wrong},
		{"rows[kind=](row(par))", wrong, wrong},
		{"rows[kind=](row(par) row(par))", ok, wrong},
		{"rows[kind=](row(par) row(par) row(par))", ok, wrong},
		{"rows[kind=](row(par) row(par) row(par) row(par))", wrong, wrong},
		{"rows[kind=](row(par) row(par) par)", wrong, wrong},
		{"rows(row(par) row(par))", wrong, wrong},
		{"row(hr par)", wrong, wrong},
		{"row(par hr par fig[alt=,src=a])", ok, wrong},

		{"fig[alt=,src=]", ok, wrong},
		{"fig[src=]", wrong, wrong},
		{"fig[alt=]", wrong, wrong},
		{"fig[src=,alt=]", wrong, wrong},
		{"fig[alt=,src=](par)", ok, wrong},
		{"fig[alt=,src=](par par)", wrong, wrong},

		{"hr", ok, wrong},
		{"hr(hr)", wrong, wrong},
		{"par(img[src=a])", ok, wrong},
		{"par(img)", wrong, wrong},
		{"par(img[src=a](text))", wrong, wrong},
		{"par(foot(par) 'a' foot(par par))", ok, wrong},
		{"par(foot)", wrong, wrong},
		{"par(foot(par par par))", wrong, wrong},
		{"par(foot(par(foot(par('a')))))", ok, wrong},

		// A mark may stand on a block, where the parent allows it.
		{"top(sec^note[by=])", ok, ok},
		{"top(sec^note)", wrong, wrong},
		{"top(head^note[by=y] sec)", ok, ok},
		{"top(sec^b)", wrong, wrong},
		{"top(sec(par^note[by=a] par^sub))", ok, ok},
		{"top(sec(par^sub^note[by=a]))", wrong, wrong},
		{"top(sec(par^note[by=a]^sub))", wrong, wrong},
		{"row(par^note[by=a])", ok, wrong},
		{"row(par^sub)", wrong, wrong},
		{"rows[kind=](row^note[by=a](par) row(par))", wrong, wrong},
		{"foot(par^note[by=a])", wrong, wrong},
		{"top^note[by=](sec)", ok, wrong},
		{"top^b(sec)", ok, wrong},
		{"top^note(sec)", wrong, wrong},

		// Marks are the same, where their attributes are.
		{"par('a'^a[href=x,title=] 'b'^a[href=x,title=])", wrong, wrong},
		{"par('a'^a[href=x,title=] 'b'^a[href=y,title=])", ok, wrong},
		{"par('a'^a[href=x,title=] 'b'^a[href=x,title=1])", ok, wrong},
		{"par('a'^sub^b 'b'^sub 'c' 'd'^b)", ok, wrong},
		{"par('a'^sub^b 'b'^sub^b)", wrong, wrong},
		{"par('a'^b^sub)", wrong, wrong},
		{"par('a'^sup^sub)", wrong, wrong},
		{"par('a'^a[href=x])", wrong, wrong},
		{"par('a'^sub^a[href=x,title=]^b foot^sub(par))", ok, wrong},
	}
}

// P7.1

func TestCheck(t *testing.T) {
	for _, x := range shapes() {
		held(t, pages(), tree(x.node), x.check, x.document)
	}
	for _, x := range bookShapes() {
		held(t, books(), tree(x.node), x.check, x.document)
	}
}

// told fails unless Check and Document answer so.
func told(t *testing.T, s api.Schema, n api.Node, check, document api.Errno) {
	t.Helper()
	if e := node.Check(s, n); e != check {
		t.Errorf("Check of %.200s: error %d, want %d", shown(n), e, check)
	}
	if e := node.Document(s, n); e != document {
		t.Errorf("Document of %.200s: error %d, want %d", shown(n), e, document)
	}
}

// held fails unless it is told so, and by the words, too.
func held(t *testing.T, s api.Schema, n api.Node, check, document api.Errno) {
	t.Helper()
	told(t, s, n, check, document)
	if e := checkByWords(s, n); e != check {
		t.Errorf("Check of %.200s: by the words error %d, want %d", shown(n), e, check)
	}
	if e := documentByWords(s, n); e != document {
		t.Errorf("Document of %.200s: by the words error %d, want %d", shown(n), e, document)
	}
}

// The wrong thing stands far within.
func TestCheckWithin(t *testing.T) {
	for _, x := range shapes() {
		n := tree(x.node)
		kids := doc(within(n, 3))
		parent := tree("li(p)")
		parent.Kids = append(parent.Kids, n)
		held(t, pages(), kids, checkByWords(pages(), kids), documentByWords(pages(), kids))
		held(t, pages(), parent, checkByWords(pages(), parent), wrong)
		if x.check != ok && node.Check(pages(), kids) == ok {
			t.Errorf("%s within others", x.node)
		}
	}
}

func TestCheckOf16Deep(t *testing.T) {
	p, full := tree("p"), tree("p('a')")
	held(t, pages(), doc(within(p, 14)), ok, ok)
	held(t, pages(), doc(within(p, 15)), long, long)
	held(t, pages(), doc(within(full, 13)), ok, ok)
	held(t, pages(), doc(within(full, 14)), long, long)
	held(t, pages(), within(full, 14), ok, wrong)
	held(t, pages(), within(full, 15), long, long)
	// The deepest one need not be the first, or the last.
	held(t, pages(), doc(p, within(p, 14), p), ok, ok)
	held(t, pages(), doc(p, within(p, 15), p), long, long)
	// What is deep need not be what may be.
	held(t, pages(), tower(tree("''"), 15), wrong, wrong)
	held(t, pages(), tower(tree("''"), 16), long, long)
	n := tree("text('a')")
	n.Kids[0] = tower(n.Kids[0], 14)
	held(t, pages(), n, wrong, wrong)
	n.Kids[0] = tower(n.Kids[0], 1)
	held(t, pages(), n, long, long)
	held(t, pages(), tower(n, 1<<16-32), long, long)
}

// fill is a text of so many bytes.
func fill(n int) api.Node {
	return api.Node{Type: "text", Text: strings.Repeat("a", n)}
}

func TestCheckOfMaxDoc(t *testing.T) {
	p := func(kids ...api.Node) api.Node { return api.Node{Type: "p", Kids: kids} }
	em := func(n api.Node) api.Node { n.Marks = []api.Mark{{Type: "em"}}; return n }
	const most = 1 << 16
	held(t, pages(), fill(most), ok, wrong)
	held(t, pages(), fill(most+1), long, long)
	held(t, pages(), p(fill(most-2)), ok, wrong)
	held(t, pages(), p(fill(most-1)), long, long)
	held(t, pages(), doc(p(fill(most-4))), ok, ok)
	held(t, pages(), doc(p(fill(most-3))), long, long)
	held(t, pages(), doc(p(fill(1000), em(fill(most-1005)), tree("br"))), ok, ok)
	held(t, pages(), doc(p(fill(1000), em(fill(most-1004)), tree("br"))), long, long)
	held(t, pages(), doc(p(fill(most-5)), tree("hr")), ok, ok)
	held(t, pages(), doc(p(fill(most-5)), tree("p")), long, long)
	// Where it is too great, that is told ahead of what may not be.
	held(t, pages(), doc(p(fill(most-4)), tree("''")), wrong, wrong)
	held(t, pages(), doc(p(fill(most-4)), tree("'\n'")), long, long)
	held(t, pages(), doc(p(fill(most-4)), tree("zz")), long, long)
	held(t, pages(), p(fill(most-2), fill(1)), long, long)
	held(t, pages(), api.Node{Type: "zz", Kids: []api.Node{fill(most - 2)}}, wrong, wrong)
	held(t, pages(), api.Node{Type: "zz", Kids: []api.Node{fill(most - 1)}}, long, long)
	// Kids of a leaf and of a text count nothing.
	held(t, pages(), api.Node{Type: "hr", Kids: []api.Node{fill(most + 1)}}, wrong, wrong)
	held(t, pages(), api.Node{Type: "text", Text: "a", Kids: []api.Node{fill(most + 1)}}, wrong, wrong)
	held(t, books(), api.Node{Type: "hr", Kids: []api.Node{fill(most + 1)}}, wrong, wrong)
	// Nor does the Text of what is no text.
	held(t, pages(), api.Node{Type: "p", Text: strings.Repeat("a", most+1)}, wrong, wrong)
}

func TestCheckOfMany(t *testing.T) {
	many := func(kid string, n int) api.Node {
		d := doc()
		for range n {
			d.Kids = append(d.Kids, tree(kid))
		}
		return d
	}
	told(t, pages(), many("hr", 1<<16-2), ok, ok)
	told(t, pages(), many("hr", 1<<16-1), long, long)
	told(t, pages(), many("p", 1<<15-1), ok, ok)
	told(t, pages(), many("p", 1<<15), long, long)
	// Texts without a byte count nothing, however many there are.
	told(t, pages(), many("''", 1<<17), wrong, wrong)
	if n := node.Size(pages(), many("''", 1<<17)); n != 2 {
		t.Errorf("size %d", n)
	}
	last := many("hr", 1<<16-2)
	last.Kids[len(last.Kids)-1] = tree("'a'")
	told(t, pages(), last, wrong, wrong)
}

// Each text of a great document has marks that none ahead has.
func TestCheckOfManyMarks(t *testing.T) {
	par := api.Node{Type: "par"}
	for i := range 1 << 14 {
		n := tree("'a'^a[href=,title=]")
		n.Marks[0].Attrs[0].Value = strings.Repeat("x", i%65)
		n.Marks[0].Attrs[1].Value = strings.Repeat("y", i/65%65)
		par.Kids = append(par.Kids, n)
	}
	told(t, books(), par, ok, wrong)
	par.Kids[len(par.Kids)-1].Marks[0].Attrs[0].Value = "\n"
	told(t, books(), par, wrong, wrong)
}

func TestSize(t *testing.T) {
	for _, x := range []struct {
		node string
		size int
	}{
		{"doc", 2}, {"p", 2}, {"doc(p)", 4}, {"doc(h[level=1])", 4}, {"hr", 1}, {"br", 1}, {"doc(hr)", 3}, {"p(br br)", 4},
		{"''", 0}, {"'a'", 1}, {"'abc'", 3}, {"p('abc' br 'd')", 7}, {"doc(p('abc' br) li(p('a')))", 13},
		{"zz", 2}, {"zz('a')", 3}, {"zz(zz zz(hr))", 7}, {"(hr)", 3}, {"block", 2}, {"inline('ab')", 4}, {"em", 2}, {name17, 2},
		{"hr(p('abc'))", 1}, {"br('abc')", 1}, {"'ab'(p('abc'))", 2}, {"text(p)", 0}, {"p'abc'", 2}, {"hr'abc'", 1},
		{"'a'^em[a=1][b=2]", 1}, {"p^em[a=1][b=2]", 2}, {"'\u00e4'", 2},
	} {
		if got := node.Size(pages(), tree(x.node)); got != x.size || got != sizeByWords(pages(), tree(x.node)) {
			t.Errorf("%s has size %d, want %d", x.node, got, x.size)
		}
	}
	for _, x := range append(shapes(), bookShapes()...) {
		for _, s := range []api.Schema{pages(), books(), small("doc:p*", "p:", "hr:p"), {}} {
			if got, want := node.Size(s, tree(x.node)), sizeByWords(s, tree(x.node)); got != want {
				t.Errorf("%s has size %d, want %d", x.node, got, want)
			}
		}
	}
}

// Nothing is a leaf by a schema that may not be; a text counts its bytes.
func TestSizeByASchemaThatMayNotBe(t *testing.T) {
	for what, s := range badSchemas() {
		for n, size := range map[string]int{"hr": 2, "br": 2, "doc(hr)": 4, "p('abc' br)": 7, "hr(p('a'))": 5, "'abc'": 3, "''": 0, "zz": 2, "text(p)": 0} {
			if got := node.Size(s, tree(n)); got != size {
				t.Errorf("%s: %s has size %d, want %d", what, n, got, size)
			}
		}
	}
}

// badSchemas are schemas like the pages', none of which may be.
func badSchemas() map[string]api.Schema {
	bad := map[string]func(s *api.Schema){
		"nothing":             func(s *api.Schema) { *s = api.Schema{} },
		"no types":            func(s *api.Schema) { s.Types = nil },
		"no text":             func(s *api.Schema) { s.Types = s.Types[:6] },
		"a type twice":        func(s *api.Schema) { s.Types = append(s.Types, api.NodeType{Name: "hr"}) },
		"a Content of others": func(s *api.Schema) { s.Types[3].Content = "zz" },
		"no Content":          func(s *api.Schema) { s.Types[3].Content = "p |" },
		"a top in a group":    func(s *api.Schema) { s.Types[0].Groups = list("a") },
		"an Inline top":       func(s *api.Schema) { s.Types[0].Inline = true },
		"a top of no making":  func(s *api.Schema) { s.Types[0].Content = "doc" },
		"a wrong mark":        func(s *api.Schema) { s.Marks[0].Name = "Em" },
		"a wrong Default":     func(s *api.Schema) { s.Types[2].Attrs[0].Default = "\n" },
	}
	for name, do := range longChanges() {
		bad[name] = do
	}
	all := map[string]api.Schema{}
	for what, do := range bad {
		s := pages()
		do(&s)
		all[what] = s
	}
	return all
}

// longChanges make a schema too long.
func longChanges() map[string]func(s *api.Schema) {
	return map[string]func(s *api.Schema){
		"33 types":              func(s *api.Schema) { s.Types = append(s.Types, make([]api.NodeType, 26)...) },
		"17 marks":              func(s *api.Schema) { s.Marks = append(s.Marks, make([]api.MarkType, 15)...) },
		"a name of 17":          func(s *api.Schema) { s.Types[4].Name = name17 },
		"9 attributes":          func(s *api.Schema) { s.Types[2].Attrs = make([]api.AttrSpec, 9) },
		"a Default of 65":       func(s *api.Schema) { s.Types[2].Attrs[0].Default = strings.Repeat("x", 65) },
		"long, and else wrong":  func(s *api.Schema) { s.Types[0].Content, s.Marks[1].Name = "zz", name17 },
		"long, and has no text": func(s *api.Schema) { s.Types = s.Types[:6]; s.Types[1].Groups[0] = name17 },
	}
}

// The schema's error is told ahead of all others, in every call that tells one.
func TestOfASchemaThatMayNotBe(t *testing.T) {
	for what, s := range badSchemas() {
		want := api.ErrArg
		if _, is := longChanges()[what]; is {
			want = api.ErrLong
		}
		for _, n := range []api.Node{{}, tree("doc(p)"), tree("zz"), tree("''"), tower(tree("p"), 20), fill(1<<16 + 1)} {
			if e := node.Check(s, n); e != want {
				t.Errorf("%s: Check of %.50s: error %d, want %d", what, shown(n), e, want)
			}
			if e := node.Document(s, n); e != want {
				t.Errorf("%s: Document of %.50s: error %d, want %d", what, shown(n), e, want)
			}
		}
		for _, typ := range []string{"", "doc", "p", "hr", "text", "zz", name17} {
			if n, e := node.Fewest(s, typ); e != want || !alike(n, api.Node{}) {
				t.Errorf("%s: Fewest of %s: %s, error %d, want %d", what, typ, shown(n), e, want)
			}
		}
		if n, e := node.Top(s); e != want || !alike(n, api.Node{}) {
			t.Errorf("%s: Top: %s, error %d, want %d", what, shown(n), e, want)
		}
	}
}

func TestDeep(t *testing.T) {
	for n, deep := range map[string]int{
		"p": 1, "''": 1, "zz": 1, "p('a')": 2, "p('a' br)": 2, "doc(p p('a') p)": 3, "doc(p('a') p)": 3, "doc(p p('a'))": 3,
		"hr(p)": 2, "'a'(p('a'(p)))": 4, "doc(li(p) li(p li(p('a'))) p)": 5, "(((())))": 4, "zz(zz(zz) zz)": 3,
	} {
		if got := node.Deep(tree(n)); got != deep || deepByWords(tree(n)) != deep {
			t.Errorf("%s is %d deep, want %d", n, got, deep)
		}
	}
	for _, more := range []int{0, 1, 15, 16, 17, 1000, 1<<16 - 1} {
		if got := node.Deep(tower(api.Node{}, more)); got != more+1 {
			t.Errorf("%d within one another are %d deep", more+1, got)
		}
	}
	if got := node.Deep(api.Node{Kids: []api.Node{}}); got != 1 {
		t.Errorf("without Kids: %d deep", got)
	}
}

func TestSame(t *testing.T) {
	// No two of these are the same.
	all := list(`p zz text hr 'a' 'b' 'ab' 'a'^em 'a'^code 'a'^em^code 'a'^code^em 'a'^em[a=1] 'a'^em[a=2] 'a'^em[b=1] 'a'^em[a=1,b=2] 'a'^
		'a'[a=1] 'a'[a=2] 'a'[b=1] 'a'[a=1,b=2] 'a'[b=2,a=1] 'a'[a=1,a=1] 'a'[=] p'a' p^em p[a=1] 'a'('a') 'a'(p) 'a'(p(p)) p(p) p('a') p(p(p)) p(p(zz)) p('a'^em) p('b') p[a=1](p) p(p[a=1])
		p^em(p) p(p^em) p'a'(p) p(p'a') p(p^em[a=1]) p(p^em[a=2])`)
	trees := []api.Node{{}, tree("p(p p)"), tree("p('a' 'b')"), tree("p('b' 'a')"), tree("p(p zz)"), tree("p(p p p)"), tree("p(p(p) p)"), tree("p(p p(p))"), tree("p(p p(zz))")}
	for _, s := range all {
		trees = append(trees, tree(s))
	}
	for i, a := range trees {
		for j, b := range trees {
			if node.Same(a, b) != (i == j) {
				t.Errorf("Same of %s and %s: %t", shown(a), shown(b), i != j)
			}
			if node.Same(tower(a, 5), tower(b, 5)) != (i == j) {
				t.Errorf("Same of %s and %s within others: %t", shown(a), shown(b), i != j)
			}
		}
	}
}

// Each part of a node is asked, and each part of all that stands within it.
func TestSameInEachPart(t *testing.T) {
	for _, x := range append(shapes(), bookShapes()...) {
		a := tree(x.node)
		if !node.Same(a, tree(x.node)) {
			t.Errorf("%s is not the same", x.node)
		}
		for what, b := range changed(x.node) {
			if node.Same(a, b) || node.Same(b, a) {
				t.Errorf("%s is the same as %s (%s)", shown(a), shown(b), what)
			}
		}
	}
}

// changed are nodes like the one that s tells, each of which is another one in one part of one of its nodes.
func changed(s string) map[string]api.Node {
	changes := map[string]func(n *api.Node){
		"a Type":        func(n *api.Node) { n.Type += "x" },
		"a Text":        func(n *api.Node) { n.Text += " " },
		"an attribute":  func(n *api.Node) { n.Attrs = append(n.Attrs, api.Attr{}) },
		"a mark":        func(n *api.Node) { n.Marks = append(n.Marks, api.Mark{}) },
		"a mark ahead":  func(n *api.Node) { n.Marks = append([]api.Mark{{Type: "x"}}, n.Marks...) },
		"a Kid":         func(n *api.Node) { n.Kids = append(n.Kids, api.Node{}) },
		"a Kid ahead":   func(n *api.Node) { n.Kids = append([]api.Node{{Type: "x"}}, n.Kids...) },
		"a Kid's grand": func(n *api.Node) { n.Kids = append(n.Kids, api.Node{Kids: make([]api.Node, 1)}) },
	}
	all := map[string]api.Node{}
	for what, do := range changes {
		for i := range count(tree(s)) {
			n := tree(s)
			do(nth(&n, i))
			all[what+" of node "+strconv.Itoa(i)] = n
		}
	}
	return all
}

// count is how many nodes there are in n, n among them.
func count(n api.Node) int {
	all := 1
	for _, kid := range n.Kids {
		all += count(kid)
	}
	return all
}

// nth is the node that stands i behind n, as they are told: n itself is the first.
func nth(n *api.Node, i int) *api.Node {
	if i == 0 {
		return n
	}
	i--
	for k := range n.Kids {
		if all := count(n.Kids[k]); i >= all {
			i -= all
			continue
		}
		return nth(&n.Kids[k], i)
	}
	panic("there are not so many")
}

func TestTheExamples(t *testing.T) {
	s := pages()
	top, e := node.Top(s)
	if e != ok || !alike(top, tree("doc(h[level=1])")) || node.Size(s, top) != 4 {
		t.Errorf("Top: %s, error %d", shown(top), e)
	}
	two := tree("doc(p('a'^em 'b'^em))")
	held(t, s, two, wrong, wrong)
	one := node.Form([]api.Node{two})
	if !allAlike(one, forest("doc(p('ab'^em))")) {
		t.Errorf("Form: %s", shownAll(one))
	}
	held(t, s, one[0], ok, ok)
	held(t, s, tree("p('a'^code^em)"), wrong, wrong)
}
