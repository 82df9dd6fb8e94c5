package row_test

import (
	"math"
	"strings"
	"testing"

	"copydesk/api"
	"copydesk/node"
	"copydesk/row"
)

// P8.1

// documents are documents with their rows.
func documents(s api.Schema) [][2]string {
	if s.Types[0].Name == "top" {
		return [][2]string{
			{"top", ""},
			{"top(sec)", "(sec )"},
			{"top(sec sec)", "(sec ) (sec )"},
			{"top(sec(hr par hr))", "(sec /hr (par ) /hr )"},
			{"top(sec(fig[alt=x,src=y](par('a'))))", "(sec (fig[alt=x,src=y] (par 'a' ) ) )"},
			{"top(sec^note[by=z](hr^note[by=]))", "(sec^note[by=z] /hr^note[by=] )"},
			{"top(sec(par^sub par^note[by=q]('a'^sub)))", "(sec (par^sub ) (par^note[by=q] 'a'^sub ) )"},
			{"top(sec(par('a' img[src=x] 'a')))", "(sec (par 'a' /img[src=x] 'a' ) )"},
			{"top(sec(par('a'^b img[src=x]^b 'b'^b img[src=]^sub^b)))", "(sec (par 'a'^b /img[src=x]^b 'b'^b /img[src=]^sub^b ) )"},
			{"top(sec(par('a' foot(par('b') par) 'c')))", "(sec (par 'a' (foot (par 'b' ) (par ) ) 'c' ) )"},
			{"top(sec(par('a'^sup foot^sup(par('b'^sup)) 'c'^sup)))", "(sec (par 'a'^sup (foot^sup (par 'b'^sup ) ) 'c'^sup ) )"},
			{"top(sec(par('a'^a[href=x,title=] 'b'^a[href=y,title=] 'cd'^a[href=y,title=z] 'e')))",
				"(sec (par 'a'^a[href=x,title=] 'b'^a[href=y,title=] 'c'^a[href=y,title=z] 'd'^a[href=y,title=z] 'e' ) )"},
			{"top(sec(par('a'^sub^a[href=,title=]^b 'b'^sub^b 'c'^b 'd'^sub)))", "(sec (par 'a'^sub^a[href=,title=]^b 'b'^sub^b 'c'^b 'd'^sub ) )"},
		}
	}
	return [][2]string{
		{"doc(p)", "(p )"},
		{"doc(hr)", "/hr"},
		{"doc(hr hr)", "/hr /hr"},
		{"doc(p('a' 'b'^em) hr)", "(p 'a' 'b'^em ) /hr"},
		{"doc(p('abc'))", "(p 'abc' )"},
		{"doc(p(' ~'))", "(p ' ' '~' )"},
		{"doc(p('aaa'))", "(p 'aaa' )"},
		{"doc(p('ab'^em 'c' 'd'^code 'e'^em))", "(p 'a'^em 'b'^em 'c' 'd'^code 'e'^em )"},
		{"doc(p('a' br 'a'))", "(p 'a' /br 'a' )"},
		{"doc(p('a'^em br^code br^em 'b'^em))", "(p 'a'^em /br^code /br^em 'b'^em )"},
		{"doc(p(br br))", "(p /br /br )"},
		{"doc(p('a') p('b'))", "(p 'a' ) (p 'b' )"},
		{"doc(p('a') p p('b'))", "(p 'a' ) (p ) (p 'b' )"},
		{"doc(h[level=1])", "(h[level=1] )"},
		{"doc(h[level=]('ab'^em))", "(h[level=] 'ab'^em )"},
		{"doc(li(p('a') li(p p('b') li(p)) hr) p)", "(li (p 'a' ) (li (p ) (p 'b' ) (li (p ) ) ) /hr ) (p )"},
	}
}

func TestOfAndMake(t *testing.T) {
	for _, s := range []api.Schema{pages(), books()} {
		for _, x := range documents(may(t, s)) {
			n, l := tree(x[0]), tokens(x[1])
			ofIs(t, s, n, l, ok)
			makeIs(t, s, l, n, ok)
			size(t, s, n, l)
		}
	}
}

// size fails unless that of n is l's length and 2 (P8.4).
func size(t *testing.T, s api.Schema, n api.Node, l []api.Token) {
	t.Helper()
	if got := node.Size(s, n); got != len(l)+2 {
		t.Errorf("%s has size %d, its row %d tokens", told(n), got, len(l))
	}
}

// ofIs fails unless Of of n is l, by the words, too.
func ofIs(t *testing.T, s api.Schema, n api.Node, l []api.Token, e api.Errno) {
	t.Helper()
	if got, gotE := row.Of(s, n); gotE != e || !equal(got, l) {
		t.Errorf("Of %.500s: %s, error %d, want %s, %d", told(n), shown(got), gotE, shown(l), e)
	}
	if got, gotE := ofByWords(s, n); gotE != e || !equal(got, l) {
		t.Errorf("Of %.500s: by the words %s, error %d, want %s, %d", told(n), shown(got), gotE, shown(l), e)
	}
}

// makeIs fails unless Make of l is n, by the words, too.
func makeIs(t *testing.T, s api.Schema, l []api.Token, n api.Node, e api.Errno) {
	t.Helper()
	if got, gotE := row.Make(s, l); gotE != e || !alike(got, n) {
		t.Errorf("Make of %s: %.500s, error %d, want %.500s, %d", shown(l), told(got), gotE, told(n), e)
	}
	if got, gotE := makeByWords(s, l); gotE != e || !alike(got, n) {
		t.Errorf("Make of %s: by the words %.500s, error %d, want %.500s, %d", shown(l), told(got), gotE, told(n), e)
	}
}

// wrongOf and wrongMake fail unless there is just that error.
func wrongOf(t *testing.T, s api.Schema, n api.Node, e api.Errno) {
	t.Helper()
	ofIs(t, s, n, nil, e)
}

func wrongMake(t *testing.T, s api.Schema, l []api.Token, e api.Errno) {
	t.Helper()
	makeIs(t, s, l, api.Node{}, e)
}

// Nodes that are no documents, by each error of node.Document.
func TestOfWhatIsNoDocument(t *testing.T) {
	for _, n := range list("doc p p('a') hr br 'a' text zz h[level=1] li(p) doc^em(p) doc(doc(p)) doc(zz) doc('a') doc(br) doc(li) doc(p(p)) doc(hr(hr)) doc[level=1](p) doc'a'(p) doc(p'a')" +
		" doc(h) doc(h[a=1]) doc(p('')) doc(p('a'^code^em)) doc(p('a'^zz)) doc(p^em) doc(p('a'^em[a=1])) doc(hr[level=1]) doc(h[level=1](br)) doc(h[level=1]('a'^code)) doc(p('\x1f')) doc(p('\x7f')) block") {
		wrongOf(t, pages(), tree(n), shape)
	}
	wrongOf(t, pages(), api.Node{}, shape)
	wrongOf(t, pages(), tree("doc(p('a' 'b'))"), shape)
	wrongOf(t, pages(), tree("doc(p p('a'^em 'b'^em))"), shape)
	wrongOf(t, books(), tree("top(sec(par('a'^sub 'b'^sub)))"), shape)
	wrongOf(t, books(), tree("top^note[by=](sec)"), shape)
	wrongOf(t, books(), tree("sec"), shape)
}

// nested is p in so many li.
func nested(times int) api.Node {
	n := tree("p('a')")
	for range times {
		n = api.Node{Type: "li", Kids: []api.Node{{Type: "p"}, n}}
	}
	return n
}

func doc(kids ...api.Node) api.Node {
	return api.Node{Type: "doc", Kids: kids}
}

func TestOfMaxDeep(t *testing.T) {
	n := doc(nested(13))
	l := rowByWords(pages(), n)
	ofIs(t, pages(), n, l, ok)
	makeIs(t, pages(), l, n, ok)
	n = doc(nested(14))
	wrongOf(t, pages(), n, long)
	wrongMake(t, pages(), rowByWords(pages(), n), long)
	// That it is too deep counts ahead of its shape, and what is not even ahead of both.
	n = doc(tree("br"), nested(14))
	wrongOf(t, pages(), n, long)
	l = rowByWords(pages(), n)
	wrongMake(t, pages(), l, long)
	wrongMake(t, pages(), l[:len(l)-1], shape)
	wrongMake(t, pages(), then(tokens(")"), l), shape)
	// As deep as can be told by a row.
	deep := then(times(tokens("(li"), 1<<15), times(tokens(")"), 1<<15))
	if got, e := row.Make(pages(), deep); e != long || !alike(got, api.Node{}) {
		t.Errorf("error %d", e)
	}
	if _, e := row.Make(pages(), deep[1:]); e != shape {
		t.Errorf("not even: error %d", e)
	}
}

func TestOfMaxDoc(t *testing.T) {
	const most = 1 << 16
	text := func(n int) api.Node {
		return doc(api.Node{Type: "p", Kids: []api.Node{{Type: "text", Text: strings.Repeat("a", n)}}})
	}
	for _, x := range []struct {
		n api.Node
		e api.Errno
	}{{text(most - 4), ok}, {text(most - 3), long}, {text(most - 2), long}} {
		l := rowByWords(pages(), x.n)
		if x.e != ok {
			wrongOf(t, pages(), x.n, x.e)
			wrongMake(t, pages(), l, x.e)
			continue
		}
		ofIs(t, pages(), x.n, l, ok)
		makeIs(t, pages(), l, x.n, ok)
		size(t, pages(), x.n, l)
	}
	hr, p := tokens("/hr"), tokens("(p )")
	for _, x := range []struct {
		l []api.Token
		e api.Errno
	}{
		{times(hr, most-3), ok}, {times(hr, most-2), ok}, {times(hr, most-1), long}, {times(hr, most), long}, {times(hr, most+1), long},
		{times(p, most/2-1), ok}, {times(p, most/2), long}, {times(p, most/2+1), long},
	} {
		n, e := row.Make(pages(), x.l)
		if e != x.e || e == ok && len(n.Kids)*node.Size(pages(), n.Kids[0]) != len(x.l) || e != ok && !alike(n, api.Node{}) {
			t.Errorf("Make of %d tokens: error %d, want %d, and %d Kids", len(x.l), e, x.e, len(n.Kids))
		}
	}
	// What is too great counts ahead of what may not be, what may not be ahead of what is not even, and that ahead of what is too great a document.
	many := times(hr, most)
	wrongMake(t, pages(), then(many, tokens("/zz")), long)
	wrongMake(t, pages(), then(many, tokens(")")), long)
	wrongMake(t, pages(), then(many[1:], tokens("/zz")), arg)
	wrongMake(t, pages(), then(many[1:], tokens(")")), shape)
	wrongMake(t, pages(), then(many[1:], tokens("(p")), shape)
	wrongMake(t, pages(), then(many[1:], tokens("/br")), long)
	wrongMake(t, pages(), then(many[2:], tokens("/br")), long)
	wrongMake(t, pages(), then(many[3:], tokens("/br")), shape)
}

// Texts of many bytes, whose marks are others each time.
func TestOfManyTexts(t *testing.T) {
	p := api.Node{Type: "p"}
	for i := range 1 << 15 {
		p.Kids = append(p.Kids, tree(list("'a' 'bc'^em 'd'^code")[i%3]))
	}
	l := rowByWords(pages(), doc(p))
	ofIs(t, pages(), doc(p), l, ok)
	makeIs(t, pages(), l, doc(p), ok)
}

func TestMakeOfWhatIsNotEven(t *testing.T) {
	for _, l := range []string{
		")", ") )", "(p", "(p (p", "(p ) )", ") (p", ") (p )", "(p ) (p", "(p ) ) (p )", "/hr )", ") /hr", "(p 'a'", "(p 'a' (p )", "'a' )", "(p ) (p ) (p",
		"(li (p ) (li (p ) )", "(li (p ) (li (p ) ) ) )", "(li (p ) ) ) (li (p )", "(h[level=1]", ") 'a' (p", "(li (p", "(li (p ) ) ) (p",
	} {
		wrongMake(t, pages(), tokens(l), shape)
	}
	for _, l := range []string{"(sec", ")", "(sec )  )", ") (sec", "(sec (par )"} {
		wrongMake(t, books(), tokens(l), shape)
	}
}

// Rows that are even, and make no document.
func TestMakeOfNoDocument(t *testing.T) {
	for _, l := range []string{
		"", "'a'", "/br", "'a' /hr", "(p ) 'a'", "/br (p )", "(li )", "(li /hr )", "(li /hr (p ) )", "(li (li (p ) ) )", "(p (p ) )", "(p /hr )", "(p 'a' (p ) 'b' )", "(h[level=1] /br )",
		"(h[level=1] 'a' /br 'b' )", "(h[level=1] 'a'^code )", "(h[level=1] 'a' 'b'^code )", "/hr^em", "(p^em )", "(li (p^code ) )", "'a'^em",
	} {
		wrongMake(t, pages(), tokens(l), shape)
	}
	for _, l := range []string{"/hr", "(par )", "'a'", "(sec 'a' )", "(sec^b )", "(sec (par^sup ) )", "(sec (foot (par ) ) )", "(sec (par (foot ) ) )", "(sec (par (foot (par ) (par ) (par ) ) ) )", "(sec (fig[alt=,src=] (par ) (par ) ) )"} {
		wrongMake(t, books(), tokens(l), shape)
	}
}

// Check's error counts ahead of what is not even, and of what makes no document.
func TestMakeOfWhatMayNotBe(t *testing.T) {
	for _, l := range []string{"(doc", "(hr )", "(hr", "/p", "/p )", "/text", "(text )", "/zz", "(p[a=1] )", "(p[a=1]", "(h )", "(p 'a'^zz )", "(p 'a'^code^em", ")^em", "(p )^em", "(p '\x1f' )", "(p '\x7f'", "(p ) /doc"} {
		wrongMake(t, pages(), tokens(l), arg)
	}
}

// Bytes of texts, put together where they have the same Marks and stand side by side.
func TestMakeOfTexts(t *testing.T) {
	for _, x := range [][2]string{
		{"(p 'ab' )", "doc(p('ab'))"},
		{"(p 'a' 'b' 'c' )", "doc(p('abc'))"},
		{"(p 'a'^em 'b'^em )", "doc(p('ab'^em))"},
		{"(p 'a'^em 'b' )", "doc(p('a'^em 'b'))"},
		{"(p 'a' 'b'^em )", "doc(p('a' 'b'^em))"},
		{"(p 'a'^em 'b'^code )", "doc(p('a'^em 'b'^code))"},
		{"(p 'a'^em 'b'^code 'c'^code 'd'^em 'e' 'f' )", "doc(p('a'^em 'bc'^code 'd'^em 'ef'))"},
		{"(p 'a' /br 'b' )", "doc(p('a' br 'b'))"},
		{"(p 'ab' /br^em 'c' 'd' /br /br )", "doc(p('ab' br^em 'cd' br br))"},
		{"(p 'a' ) (p 'b' )", "doc(p('a') p('b'))"},
		{"(li (p 'a' ) (p 'b' ) ) (p 'c' )", "doc(li(p('a') p('b')) p('c'))"},
	} {
		makeIs(t, pages(), tokens(x[0]), tree(x[1]), ok)
	}
	for _, x := range [][2]string{
		{"(sec (par 'a'^a[href=x,title=] 'b'^a[href=x,title=] ) )", "top(sec(par('ab'^a[href=x,title=])))"},
		{"(sec (par 'a'^a[href=x,title=] 'b'^a[href=y,title=] ) )", "top(sec(par('a'^a[href=x,title=] 'b'^a[href=y,title=])))"},
		{"(sec (par 'a'^a[href=x,title=] 'b'^a[href=x,title=y] ) )", "top(sec(par('a'^a[href=x,title=] 'b'^a[href=x,title=y])))"},
		{"(sec (par 'a'^sub^b 'b'^sub^b 'c'^sub 'd'^b ) )", "top(sec(par('ab'^sub^b 'c'^sub 'd'^b)))"},
		{"(sec (par 'a' (foot (par 'b' ) ) 'c' ) )", "top(sec(par('a' foot(par('b')) 'c')))"},
	} {
		makeIs(t, books(), tokens(x[0]), tree(x[1]), ok)
	}
}

// A top that is a leaf has an empty row, and any other one makes no document.
func TestLeafAtTheTop(t *testing.T) {
	for _, s := range []api.Schema{small("top:", "p:text*", "hr:"), small("z:   ", "p:text*", "hr:")} {
		n := api.Node{Type: s.Types[0].Name}
		ofIs(t, may(t, s), n, nil, ok)
		makeIs(t, s, nil, n, ok)
		if got := node.Size(s, n); got != 1 {
			t.Errorf("size %d", got)
		}
		for _, l := range [][]api.Token{tokens("/hr"), tokens("(p )"), tokens("'a'"), tokens("(p"), tokens(")"), times(tokens("/hr"), 1<<16)} {
			wrongMake(t, s, l, shape)
		}
		wrongMake(t, s, times(tokens("/hr"), 1<<16+1), long)
		wrongMake(t, s, []api.Token{{Kind: api.TokLeaf, Type: n.Type}}, arg)
		wrongOf(t, s, api.Node{Type: n.Type, Kids: []api.Node{{Type: "hr"}}}, shape)
		wrongOf(t, s, tree("hr"), shape)
	}
}

// A document without Kids, whose type may hold some.
func TestOfWithoutKids(t *testing.T) {
	s := may(t, small("doc:p*", "p:text*"))
	ofIs(t, s, tree("doc"), nil, ok)
	makeIs(t, s, nil, tree("doc"), ok)
	makeIs(t, s, []api.Token{}, tree("doc"), ok)
	size(t, s, tree("doc"), nil)
}

// P8.3

func TestDepth(t *testing.T) {
	for _, x := range []struct {
		l     string
		depth []int
	}{
		{"", []int{0}},
		{"(p 'a' 'b'^em ) /hr", []int{0, 1, 1, 1, 0, 0}},
		{"/hr 'a'", []int{0, 0, 0}},
		{"(p", []int{0, 1}},
		{")", []int{0, -1}},
		{") ) (p ) ) (p (p (p 'a' )", []int{0, -1, -2, -1, -2, -3, -2, -1, 0, 0, -1}},
		{"(li (p ) (li (p ) ) )", []int{0, 1, 2, 1, 2, 3, 2, 1, 0}},
		{"(zz[a=1]^em )^em (zz", []int{0, 1, 0, 1}},
	} {
		l := tokens(x.l)
		for place, want := range x.depth {
			if got := row.Depth(l, place); got != want || depthByWords(l, place) != want {
				t.Errorf("Depth of %q at %d: %d, want %d", x.l, place, got, want)
			}
		}
		for _, place := range []int{-1, -2, len(l) + 1, len(l) + 2, 1 << 20, math.MaxInt, math.MinInt} {
			if got := row.Depth(l, place); got != 0 {
				t.Errorf("Depth of %q at %d, which is no place: %d", x.l, place, got)
			}
		}
	}
	if got := row.Depth([]api.Token{{}, {Kind: -1}, {Kind: 5}, {Kind: api.TokOpen}}, 4); got != 1 {
		t.Errorf("Depth behind tokens of no kind: %d", got)
	}
	many := then(times(tokens("(p"), 1<<17), times(tokens(")"), 1<<18))
	if a, b := row.Depth(many, 1<<17), row.Depth(many, 3<<17); a != 1<<17 || b != -1<<17 {
		t.Errorf("Depth of many: %d, %d", a, b)
	}
}

// sides is what a row leaves.
type sides struct {
	closes, opens int
}

func left(l []api.Token) sides {
	closes, opens := row.Left(l)
	return sides{closes, opens}
}

func TestLeft(t *testing.T) {
	for l, want := range map[string]sides{
		"":                              {0, 0},
		"'a' /hr":                       {0, 0},
		"(p )":                          {0, 0},
		"(p 'a' ) (p )":                 {0, 0},
		"(li (p ) (li (p ) ) )":         {0, 0},
		")":                             {1, 0},
		") ) )":                         {3, 0},
		"(p":                            {0, 1},
		"(p (p (p":                      {0, 3},
		") (p":                          {1, 1},
		") ) (p 'a' (p (p":              {2, 3},
		"(p ) )":                        {1, 0},
		"(p ) ) (p":                     {1, 1},
		"(p ) ) (p ) (p":                {1, 1},
		"(p (p ) ) ) ) (p (p )":         {2, 1},
		"/hr ) /hr (p /hr":              {1, 1},
		"(p (p )":                       {0, 1},
		") (p )":                        {1, 0},
		") (p ) ) (p (p ) (p ) ) (p":    {2, 1},
		"(zz[a=1]^em '\x01' /zz )^em )": {1, 0},
	} {
		closes, opens := leftByWords(tokens(l))
		if got := left(tokens(l)); got != want || got != (sides{closes, opens}) {
			t.Errorf("Left of %q: %v, want %v", l, got, want)
		}
	}
	if got := left([]api.Token{{}, {Kind: -2}, {Kind: 5}, {Kind: 6, Type: "p"}}); got != (sides{}) {
		t.Errorf("Left of tokens of no kind: %v", got)
	}
	const many = 1 << 17
	if got := left(then(times(tokens(")"), many), times(tokens("(p"), 2*many), times(tokens(")"), many))); got != (sides{many, many}) {
		t.Errorf("Left of many: %v", got)
	}
}

// lone are tokens no two of which are the same.
func lone() []api.Token {
	var l []api.Token
	for _, s := range []string{
		"(p", "(h", "/p", "/h", "'a'", "'b'", ")", "(", "/", "(p[a=1]", "(p[a=2]", "(p[b=1]", "(p[a=1,b=2]", "(p[b=2,a=1]", "(p[a=1,a=1]", "(p[a=1,b=2,c=3]", "(p[=]", "(pa", "(p^a",
		"(p^em", "(p^code", "(p^em^code", "(p^code^em", "(p^em^em", "(p^em[a=1]", "(p^em[a=2]", "(p^em[b=1]", "(p^em[a=1,b=2]", "(p^em[a=1]^em", "(p^em^em[a=1]", "(p^", "(p[a=1]^em[a=1]",
		"'a'^em", "'a'^code", "'a'^em[a=1]", "'b'^em", "/p^em", "/p[a=1]", "/p[a=1]^em", ")^em", "'\x00'^em", "'\xff'", "'\x7f'",
	} {
		l = append(l, token(s))
	}
	return append(l, api.Token{}, api.Token{Kind: -1}, api.Token{Kind: 5}, api.Token{Kind: math.MaxInt}, api.Token{Type: "p"}, api.Token{Char: 'a'}, api.Token{Kind: 1, Char: 'a'}, api.Token{Kind: 2, Char: 'a'},
		api.Token{Kind: 4, Type: "p", Char: 'a'}, api.Token{Kind: 4, Type: "text", Char: 'a'}, api.Token{Kind: 4}, api.Token{Kind: 1 << 32, Char: 'a'}, api.Token{Kind: 1<<32 + 1, Char: 'a'})
}

func TestSame(t *testing.T) {
	all := lone()
	hr := tokens("/hr")
	for i, a := range all {
		for j, b := range all {
			x, y := []api.Token{cloned(a)}, []api.Token{cloned(b)}
			if row.Same(x, y) != (i == j) {
				t.Errorf("Same of %s and %s: %t", shown(x), shown(y), i != j)
			}
			if row.Same(then(hr, x, hr), then(hr, y, hr)) != (i == j) || row.Same(then(x, x), then(x, y)) != (i == j) || row.Same(then(x, x), then(y, x)) != (i == j) {
				t.Errorf("Same of %s and %s among others: %t", shown(x), shown(y), i != j)
			}
		}
		one := []api.Token{a}
		if row.Same(one, nil) || row.Same(nil, one) || row.Same(one, times(one, 2)) || row.Same(times(one, 2), one) {
			t.Errorf("%s is the same as none, or as two", shown(one))
		}
	}
	if !row.Same(nil, nil) || !row.Same(nil, []api.Token{}) || !row.Same([]api.Token{}, nil) {
		t.Error("none are not the same as none")
	}
	if row.Same(tokens("'ab'"), tokens("'ba'")) || !row.Same(tokens("(p 'ab'^em )"), tokens("(p 'a'^em 'b'^em )")) {
		t.Error("rows in another order")
	}
}

func TestAlike(t *testing.T) {
	for _, x := range []struct {
		a, b          string
		ahead, behind int
	}{
		{"", "", 0, 0},
		{"'a'", "", 0, 0},
		{"'a'", "'a'", 1, 0},
		{"'a'", "'b'", 0, 0},
		{"'abc'", "'abc'", 3, 0},
		{"'abc'", "'abd'", 2, 0},
		{"'abc'", "'xbc'", 0, 2},
		{"'abc'", "'axc'", 1, 1},
		{"'abc'", "'xyz'", 0, 0},
		{"'abc'", "'ab'", 2, 0},
		{"'abc'", "'bc'", 0, 2},
		{"'abc'", "'ac'", 1, 1},
		{"'abc'", "'abxc'", 2, 1},
		// The beginning and the end would overlap.
		{"'aa'", "'aaa'", 2, 0},
		{"'aaa'", "'aaaaa'", 3, 0},
		{"'aba'", "'ababa'", 3, 0},
		{"'aba'", "'abba'", 2, 1},
		{"'abab'", "'ab'", 2, 0},
		{"'aba'", "'a'", 1, 0},
		{"'abcab'", "'ab'", 2, 0},
		{"'abcab'", "'abab'", 2, 2},
		{"'aab'", "'ab'", 1, 1},
		{"'xaab'", "'xab'", 2, 1},
		{"(p ) (p )", "(p )", 2, 0},
		{"(p 'a' ) (p 'b' )", "(p 'a' ) (p 'c' ) (p 'b' )", 4, 2},
		{"(p 'a' 'b'^em ) /hr", "(p 'a' ) /hr", 2, 2},
		{"(p 'a' 'b'^em ) /hr", "(p 'a' 'b' ) /hr", 2, 2},
		{"(p 'a'^em )", "(p^em 'a'^em )", 0, 2},
		{"(h[level=1] 'a' )", "(h[level=2] 'a' )", 0, 2},
	} {
		a, b := tokens(x.a), tokens(x.b)
		for _, pair := range [][2][]api.Token{{a, b}, {b, a}} {
			ahead, behind := row.Alike(pair[0], pair[1])
			aheadBy, behindBy := alikeByWords(pair[0], pair[1])
			if ahead != x.ahead || behind != x.behind || aheadBy != x.ahead || behindBy != x.behind {
				t.Errorf("Alike of %s and %s: %d, %d, want %d, %d", shown(pair[0]), shown(pair[1]), ahead, behind, x.ahead, x.behind)
			}
		}
	}
	all := lone()
	for i, a := range all {
		for j, b := range all {
			want := 0
			if i == j {
				want = 1
			}
			if ahead, behind := row.Alike([]api.Token{a}, []api.Token{cloned(b)}); ahead != want || behind != 0 {
				t.Errorf("Alike of %s and %s: %d, %d", shown(all[i:i+1]), shown(all[j:j+1]), ahead, behind)
			}
			if ahead, behind := row.Alike(append(tokens("/x"), a), append(tokens("/y"), cloned(b))); ahead != 0 || behind != want {
				t.Errorf("Alike of %s and %s at the end: %d, %d", shown(all[i:i+1]), shown(all[j:j+1]), ahead, behind)
			}
		}
	}
	many := times(tokens("'ab'"), 1<<16)
	if ahead, behind := row.Alike(many, many[2:]); ahead != 1<<17-2 || behind != 0 {
		t.Errorf("Alike of many: %d, %d", ahead, behind)
	}
	if ahead, behind := row.Alike(many, many[1:]); ahead != 0 || behind != 1<<17-1 {
		t.Errorf("Alike of many: %d, %d", ahead, behind)
	}
}

func TestTheExamples(t *testing.T) {
	s, d := pages(), tree("doc(p('a' 'b'^em) hr)")
	l := []api.Token{
		{Kind: api.TokOpen, Type: "p"},
		{Kind: api.TokChar, Char: 'a'},
		{Kind: api.TokChar, Char: 'b', Marks: []api.Mark{{Type: "em"}}},
		{Kind: api.TokClose},
		{Kind: api.TokLeaf, Type: "hr"},
	}
	ofIs(t, s, d, l, ok)
	makeIs(t, s, l, d, ok)
	if a, b, c := row.Depth(l, 0), row.Depth(l, 1), row.Depth(l, 4); a != 0 || b != 1 || c != 0 {
		t.Errorf("Depth at 0, 1, 4: %d, %d, %d", a, b, c)
	}
	if got := left(l[3:]); got != (sides{1, 0}) {
		t.Errorf("Left from 3 on: %v", got)
	}
	if got := left(l[:2]); got != (sides{0, 1}) {
		t.Errorf("Left up to 2: %v", got)
	}
	makeIs(t, s, then(l[:2], l[3:]), tree("doc(p('a') hr)"), ok)
	wrongMake(t, s, then(l[:3], l[4:]), shape)
}
