package row_test

import (
	"math"
	"strings"
	"testing"

	"copydesk/api"
	"copydesk/row"
)

// P8.2: Check

// lot is a token, and whether it may be.
type lot struct {
	what string
	t    api.Token
	may  bool
}

// lots are tokens of the pages.
func lots() []lot {
	var l []lot
	for _, s := range []string{
		"(p", "(h[level=1]", "(h[level=]", "(li", ")", "/hr", "/br", "'a'", "' '", "'~'", "'!'", "'}'",
		// Marks are a set, whatever allows them where they stand.
		"(p^em", "(p^code", "(li^em", "(h[level=2]^code", "/hr^em", "/br^code", "'a'^em", "'a'^code",
		"(h[level=" + strings.Repeat("~", 64) + "]",
	} {
		l = append(l, lot{s, token(s), true})
	}
	for _, s := range []string{
		// Types that are none, that is text, that is the top; of groups and marks; a leaf's as TokOpen, another's as TokLeaf.
		"(zz", "(", "(P", "(pp", "(block", "(em", "(text", "(doc", "(hr", "(br", "(inline", "(" + name17,
		"/zz", "/", "/Hr", "/hrs", "/block", "/em", "/text", "/doc", "/p", "/h[level=1]", "/li", "/inline", "/" + name17,
		"(text^em", "(doc^em", "/text^em", "/doc^em", "(hr^em", "/p^em",
		// Attributes that do not fit.
		"(h", "(p[a=1]", "(p[level=1]", "(li[level=1]", "/hr[level=1]", "/br[a=]", "(h[Level=1]", "(h[levels=1]", "(h[a=1]", "(h[=]", "(h[level=1,level=1]", "(h[a=1,level=1]", "(h[level=1,z=1]", "(h[z=1,level=1]",
		"(h[level=\x1f]", "(h[level=\x7f]", "(h[level=" + strings.Repeat("1", 65) + "]", "(h[a=,b=,c=,d=,e=,f=,g=,h=,i=]",
		// Marks that are no set.
		"(p^zz", "(p^", "(p^p", "(p^text", "(p^em^em", "(p^em^code", "(p^code^em", "(p^em[a=1]", "(p^Em", "(p^em^zz", "(p^zz^em", "(p^" + name17,
		"/hr^zz", "/hr^", "/br^em^em", "/br^em^code", "/br^code^em", "/br^code[a=1]",
		"'a'^zz", "'a'^", "'a'^em^em", "'a'^em^code", "'a'^code^em", "'a'^em[a=1]", "'a'^code^zz", "'a'^zz^code",
		// Bytes that are none of a text.
		"'\x00'", "'\x1f'", "'\x7f'", "'\x80'", "'\xff'", "'\n'", "'\t'", "'\x1f'^em",
		// What the kind does not have.
		")^em", ")^zz", ")^",
	} {
		l = append(l, lot{s, token(s), false})
	}
	level, em := []api.Attr{{Name: "level", Value: "1"}}, []api.Mark{{Type: "em"}}
	return append(l,
		lot{"an end with a Type", api.Token{Kind: 2, Type: "p"}, false},
		lot{"an end with Attrs", api.Token{Kind: 2, Attrs: level}, false},
		lot{"an end with a Type, and its Attrs", api.Token{Kind: 2, Type: "h", Attrs: level}, false},
		lot{"an end with Marks", api.Token{Kind: 2, Marks: em}, false},
		lot{"an end with a Char", api.Token{Kind: 2, Char: 'a'}, false},
		lot{"an end with a Char of 1", api.Token{Kind: 2, Char: 1}, false},
		lot{"an end with lists that are empty", api.Token{Kind: 2, Attrs: []api.Attr{}, Marks: []api.Mark{}}, true},
		lot{"a node with a Char", api.Token{Kind: 1, Type: "p", Char: 'a'}, false},
		lot{"a node with a Char of 1", api.Token{Kind: 1, Type: "p", Char: 1}, false},
		lot{"a node with a Char of 255", api.Token{Kind: 1, Type: "h", Attrs: level, Marks: em, Char: 255}, false},
		lot{"a node with lists that are empty", api.Token{Kind: 1, Type: "p", Attrs: []api.Attr{}, Marks: []api.Mark{}}, true},
		lot{"a leaf with a Char", api.Token{Kind: 3, Type: "hr", Char: 'a'}, false},
		lot{"a leaf with a Char of 1", api.Token{Kind: 3, Type: "br", Char: 1}, false},
		lot{"a leaf with lists that are empty", api.Token{Kind: 3, Type: "hr", Attrs: []api.Attr{}, Marks: []api.Mark{}}, true},
		lot{"a byte with a Type", api.Token{Kind: 4, Type: "p", Char: 'a'}, false},
		lot{"a byte with the type text", api.Token{Kind: 4, Type: "text", Char: 'a'}, false},
		lot{"a byte with the type text and Marks", api.Token{Kind: 4, Type: "text", Marks: em, Char: 'a'}, false},
		lot{"a byte with Attrs", api.Token{Kind: 4, Attrs: level, Char: 'a'}, false},
		lot{"a byte with lists that are empty", api.Token{Kind: 4, Attrs: []api.Attr{}, Marks: []api.Mark{}, Char: 'a'}, true},
		lot{"no byte", api.Token{Kind: 4}, false},
	)
}

// bookLots are tokens of the books.
func bookLots() []lot {
	var l []lot
	for _, s := range []string{
		"(sec", "(par", "(fig[alt=,src=]", "(fig[alt=a,src=b]^note[by=]", "(foot^sub", "/hr", "/img[src=]", "/img[src=x]^sub^a[href=,title=]^b", "'a'^a[href=x,title=y]", "'a'^sub^b",
		"'a'^sup^b", "'a'^b^note[by=y]", "'a'^sup^note[by=y]",
	} {
		l = append(l, lot{s, token(s), true})
	}
	for _, s := range []string{
		"(top", "/top", "(hr", "(img[src=]", "/foot", "/sec", "/img", "/img[alt=]", "/img[alt=,src=]", "(fig", "(fig[src=]", "(fig[alt=]", "(fig[src=,alt=]", "'a'^a", "'a'^a[href=]", "'a'^a[title=]",
		"'a'^a[title=,href=]", "'a'^a[href=\x1f,title=]", "'a'^b^sub", "'a'^sub^sup", "'a'^sub^note[by=]", "'a'^sub^b^note[by=]", "'a'^a[href=,title=]^a[href=,title=]", "'a'^a[href=,title=]^a[href=x,title=]", "'a'^note",
		"(sec^note", "(flow", "/img[src=" + strings.Repeat("x", 65) + "]",
	} {
		l = append(l, lot{s, token(s), false})
	}
	return l
}

// checkIs fails unless Check of l answers e, by the words, too.
func checkIs(t *testing.T, s api.Schema, l []api.Token, e api.Errno) {
	t.Helper()
	if got := row.Check(s, l); got != e {
		t.Errorf("Check of %s: error %d, want %d", shown(l), got, e)
	}
	if got := checkByWords(s, l); got != e {
		t.Errorf("Check of %s: by the words error %d, want %d", shown(l), got, e)
	}
}

func TestCheck(t *testing.T) {
	for i, lots := range [][]lot{lots(), bookLots()} {
		s := may(t, []api.Schema{pages(), books()}[i])
		around := tokens([]string{"(p 'a'^em 'b' ) /hr (h[level=1]", "(sec /img[src=]^b 'a'^sup ) /hr"}[i])
		checkIs(t, s, around, ok)
		for _, x := range lots {
			want := ok
			if !x.may {
				want = arg
			}
			checkIs(t, s, []api.Token{x.t}, want)
			for place := range len(around) + 1 {
				checkIs(t, s, then(around[:place], []api.Token{x.t}, around[place:]), want)
			}
			// What is wrong is wrong behind what is like it, and ahead of it.
			checkIs(t, s, times([]api.Token{x.t}, 3), want)
		}
	}
	checkIs(t, pages(), nil, ok)
	checkIs(t, pages(), []api.Token{}, ok)
}

// Each lot behind each other one: what is asked of one does not hang on what stands ahead of it.
func TestCheckOfTwo(t *testing.T) {
	for i, lots := range [][]lot{lots(), bookLots()} {
		s := []api.Schema{pages(), books()}[i]
		for _, x := range lots {
			for _, y := range lots {
				want := ok
				if !x.may || !y.may {
					want = arg
				}
				if got := row.Check(s, []api.Token{x.t, y.t}); got != want {
					t.Errorf("Check of %q, %q: error %d, want %d", x.what, y.what, got, want)
				}
			}
		}
	}
}

// Marks like those ahead do not make an end, or a byte, that may be of one that may not.
func TestCheckOfMarksLikeThoseAhead(t *testing.T) {
	for _, l := range []string{"'a'^em )^em", "/hr^em )^em", "(p^em )^em", "'a'^em '\x1f'^em", "(p^em (doc^em", "'a'^em 'b'^em 'c'^em^em", "'a'^em 'b'^zz", "'a' 'b'^zz 'c'^zz", "'a'^em[a=1] 'b'^em", "'a'^em 'b'^em[a=1]"} {
		checkIs(t, pages(), tokens(l), arg)
	}
	for _, l := range []string{"'a'^em ) 'b'^em", "(p^em ) /hr^em /hr", "'a'^em 'b'^em 'c' 'd'^code"} {
		checkIs(t, pages(), tokens(l), ok)
	}
}

// Rows need not be even, nor make a document.
func TestCheckOfWhatIsNotEven(t *testing.T) {
	for _, l := range []string{")", ") )", "(p", ") (p", "(p (li ) ) )", "'a'", "/br", "(li )", "(p (p ) )", "(li /hr )", "(p^em )", "(h[level=1] 'a'^code )", "/hr^em"} {
		checkIs(t, pages(), tokens(l), ok)
	}
}

func TestCheckOfEachKind(t *testing.T) {
	for _, kind := range []int{-1, 0, 5, 6, 7, 8, 255, 256, 1 << 8, 1<<8 + 1, 1<<16 + 2, 1 << 32, 1<<32 + 1, 1<<32 + 2, 1<<32 + 3, 1<<32 + 4, math.MaxInt, math.MinInt, -2, -3, -4} {
		for _, x := range lots() {
			x.t.Kind = kind
			checkIs(t, pages(), []api.Token{x.t}, arg)
		}
		checkIs(t, pages(), []api.Token{{Kind: kind}}, arg)
	}
	// Each lot as each other kind.
	for _, x := range lots() {
		for kind := 1; kind <= 4; kind++ {
			x.t.Kind = kind
			checkIs(t, pages(), []api.Token{x.t}, checkByWords(pages(), []api.Token{x.t}))
		}
	}
}

func TestCheckOfEachByte(t *testing.T) {
	for c := range 256 {
		want := arg
		if c >= 32 && c <= 126 {
			want = ok
		}
		checkIs(t, pages(), []api.Token{{Kind: api.TokChar, Char: byte(c)}}, want)
		checkIs(t, pages(), []api.Token{{Kind: api.TokChar, Char: 'a'}, {Kind: api.TokChar, Char: byte(c)}}, want)
		checkIs(t, pages(), []api.Token{{Kind: api.TokChar, Marks: []api.Mark{{Type: "em"}}, Char: byte(c)}}, want)
		if c > 0 {
			checkIs(t, pages(), []api.Token{{Kind: api.TokOpen, Type: "p", Char: byte(c)}}, arg)
			checkIs(t, pages(), []api.Token{{Kind: api.TokLeaf, Type: "hr", Char: byte(c)}}, arg)
			checkIs(t, pages(), []api.Token{{Kind: api.TokClose, Char: byte(c)}}, arg)
		}
	}
}

func TestCheckOfMaxDoc(t *testing.T) {
	const most = 1 << 16
	for _, one := range []string{"/hr", "(p", ")", "'a'", "'a'^em"} {
		many := times(tokens(one), most)
		checkIs(t, pages(), many, ok)
		checkIs(t, pages(), then(many, tokens(one)), long)
		// That there are too many counts ahead of one that may not be.
		checkIs(t, pages(), then(many, tokens("/zz")), long)
		checkIs(t, pages(), then(tokens("/zz"), many), long)
		checkIs(t, pages(), then(tokens("/zz"), many[1:]), arg)
		checkIs(t, pages(), then(many[1:], tokens("/zz")), arg)
	}
	checkIs(t, pages(), make([]api.Token, most), arg)
	checkIs(t, pages(), make([]api.Token, most+1), long)
	checkIs(t, pages(), make([]api.Token, 1<<18), long)
}

// Schemas with as many types and marks as there may be.
func TestCheckOfAWideSchema(t *testing.T) {
	s := small("a:b*")
	for i := range 30 {
		name := "b" + string(rune('a'+i%26)) + string(rune('a'+i/26))
		content := ""
		if i%2 == 0 {
			content = name + "*"
		}
		s.Types = append(s.Types, api.NodeType{Name: name, Content: content, Attrs: specs("a b c d e f g h"), Groups: list("b")})
	}
	for i := range 16 {
		m := api.MarkType{Name: "m" + string(rune('a'+i))}
		if i > 0 {
			m.Excludes = []string{"ma"}
		}
		s.Marks = append(s.Marks, m)
	}
	may(t, s)
	for i, typ := range s.Types[2:] {
		open, leaf := token("(x[a=,b=,c=,d=,e=,f=,g=,h=]^mb^mc^md^me^mf^mg^mh^mi^mj^mk^ml^mm^mn^mo^mp"), token("/x[a=,b=,c=,d=,e=,f=,g=,h=]^ma")
		open.Type, leaf.Type = typ.Name, typ.Name
		wantOpen, wantLeaf := ok, arg
		if i%2 != 0 {
			wantOpen, wantLeaf = arg, ok
		}
		checkIs(t, s, []api.Token{open}, wantOpen)
		checkIs(t, s, []api.Token{leaf}, wantLeaf)
	}
	checkIs(t, s, tokens("'a'^ma^mb"), arg)
	checkIs(t, s, tokens("'a'^ma^mp"), arg)
	checkIs(t, s, tokens("'a'^mb^mp"), ok)
	checkIs(t, s, tokens("'a'^mp^mb"), arg)
}

// Schemas that may not be

// badSchemas are schemas like the pages', none of which may be, and their errors.
func badSchemas() map[string]api.Schema {
	all := map[string]api.Schema{}
	for what, do := range map[string]func(s *api.Schema){
		"arg: nothing":                 func(s *api.Schema) { *s = api.Schema{} },
		"arg: no types":                func(s *api.Schema) { s.Types = nil },
		"arg: no text":                 func(s *api.Schema) { s.Types = s.Types[:6] },
		"arg: a type twice":            func(s *api.Schema) { s.Types = append(s.Types, api.NodeType{Name: "hr"}) },
		"arg: a Content of others":     func(s *api.Schema) { s.Types[3].Content = "zz" },
		"arg: no Content":              func(s *api.Schema) { s.Types[3].Content = "p |" },
		"arg: a top in a group":        func(s *api.Schema) { s.Types[0].Groups = list("a") },
		"arg: an Inline top":           func(s *api.Schema) { s.Types[0].Inline = true },
		"arg: text as the top":         func(s *api.Schema) { s.Types[0], s.Types[6] = s.Types[6], s.Types[0] },
		"arg: a top of no making":      func(s *api.Schema) { s.Types[0].Content = "doc" },
		"arg: a wrong mark":            func(s *api.Schema) { s.Marks[0].Name = "Em" },
		"arg: a mark twice":            func(s *api.Schema) { s.Marks[1].Name = "em" },
		"arg: a type's Marks":          func(s *api.Schema) { s.Types[1].Marks = list("em code") },
		"arg: a wrong Default":         func(s *api.Schema) { s.Types[2].Attrs[0].Default = "\n" },
		"long: 33 types":               func(s *api.Schema) { s.Types = append(s.Types, make([]api.NodeType, 26)...) },
		"long: 17 marks":               func(s *api.Schema) { s.Marks = append(s.Marks, make([]api.MarkType, 15)...) },
		"long: a name of 17":           func(s *api.Schema) { s.Types[4].Name = name17 },
		"long: 9 attributes":           func(s *api.Schema) { s.Types[2].Attrs = make([]api.AttrSpec, 9) },
		"long: a Default of 65":        func(s *api.Schema) { s.Types[2].Attrs[0].Default = strings.Repeat("x", 65) },
		"long: that has no text":       func(s *api.Schema) { s.Types = s.Types[:6]; s.Types[1].Groups[0] = name17 },
		"long: a mark, of no types":    func(s *api.Schema) { s.Types, s.Marks[1].Name = nil, name17 },
		"long: a mark, a wrong Groups": func(s *api.Schema) { s.Types[0].Groups, s.Marks[1].Name = list("p"), name17 },
	} {
		s := pages()
		do(&s)
		all[what] = s
	}
	return all
}

// The schema's error is told ahead of all others, in every call that takes one.
func TestOfASchemaThatMayNotBe(t *testing.T) {
	rows := [][]api.Token{nil, tokens("(p )"), tokens("/hr"), tokens(")"), tokens("(p"), tokens("/zz"), tokens("'\x1f'^zz"), {{}}, make([]api.Token, 1<<16+1)}
	for what, s := range badSchemas() {
		want := arg
		if strings.HasPrefix(what, "long") {
			want = long
		}
		for _, l := range rows {
			checkIs(t, s, l, want)
			wrongMake(t, s, l, want)
		}
		for _, n := range []string{"doc", "doc(p)", "doc(hr)", "text", "p", "zz", "doc(zz)", "doc^em(p)", "''"} {
			wrongOf(t, s, tree(n), want)
		}
		wrongOf(t, s, api.Node{}, want)
		wrongOf(t, s, doc(nested(20)), want)
	}
}
