package schema_test

import (
	"reflect"
	"strings"
	"testing"

	"copydesk/api"
	"copydesk/schema"
)

// change makes another schema of pages.
type change struct {
	what string
	do   func(s *api.Schema)
}

// letters are n names, of one or two bytes, rising.
func letters(n int) []string {
	var l []string
	for i := range n {
		l = append(l, string([]byte{byte('a' + i/26), byte('a' + i%26)}))
	}
	return l
}

// full is a schema of api.MaxTypes types; the top needs none.
func full() api.Schema {
	s := small("top:")
	for _, name := range letters(api.MaxTypes - 2) {
		s.Types = append(s.Types, api.NodeType{Name: name})
	}
	return s
}

func marks(n int) []api.MarkType {
	var l []api.MarkType
	for _, name := range letters(n) {
		l = append(l, api.MarkType{Name: name})
	}
	return l
}

func specs(n int) []api.AttrSpec {
	var l []api.AttrSpec
	for _, name := range letters(n) {
		l = append(l, api.AttrSpec{Name: name, Default: "1"})
	}
	return l
}

func spec(name, value string) []api.AttrSpec {
	return []api.AttrSpec{{Name: name, Default: value}}
}

func must(name string) []api.AttrSpec {
	return []api.AttrSpec{{Name: name, Must: true}}
}

// content changes the Content of the i-th type.
func content(i int, text string) func(s *api.Schema) {
	return func(s *api.Schema) { s.Types[i].Content = text }
}

// groups changes the Groups of the type br, which others need only by inline*.
func groups(l ...string) func(s *api.Schema) {
	return func(s *api.Schema) { s.Types[br].Groups = l }
}

func marksOf(i int, l ...string) func(s *api.Schema) {
	return func(s *api.Schema) { s.Types[i].Marks = l }
}

func excludes(i int, l ...string) func(s *api.Schema) {
	return func(s *api.Schema) { s.Marks[i].Excludes = l }
}

func attrsOf(i int, l []api.AttrSpec) func(s *api.Schema) {
	return func(s *api.Schema) { s.Types[i].Attrs = l }
}

func attrsOfMark(i int, l []api.AttrSpec) func(s *api.Schema) {
	return func(s *api.Schema) { s.Marks[i].Attrs = l }
}

// renamed gives the type hr, which no Content names by its Name, another one.
func renamed(name string) func(s *api.Schema) {
	return func(s *api.Schema) { s.Types[hr].Name = name }
}

// marked gives the mark em another name, wherever it stands.
func marked(name string) func(s *api.Schema) {
	return func(s *api.Schema) {
		s.Types[p].Marks, s.Types[h].Marks = list("code "+name), list(name)
		s.Marks[0].Name, s.Marks[1].Excludes = name, list(name)
	}
}

// whole takes another schema in the place of pages.
func whole(other api.Schema) func(s *api.Schema) {
	return func(s *api.Schema) { *s = other }
}

// these are changes, of each of which what comes may be.
func these() []change {
	return []change{
		{"the pages", func(s *api.Schema) {}},
		{"2 Types", whole(small("top:"))},
		{"32 Types", whole(full())},
		{"no Marks", func(s *api.Schema) { s.Marks, s.Types[p].Marks, s.Types[h].Marks = nil, nil, nil }},
		{"16 Marks", func(s *api.Schema) { s.Marks = marks(16); s.Types[p].Marks = letters(16); s.Types[h].Marks = nil }},
		{"Excludes of 15", func(s *api.Schema) {
			s.Marks, s.Types[p].Marks, s.Types[h].Marks = marks(16), nil, nil
			s.Marks[15].Excludes = letters(15)
		}},
		{"marks that exclude one another", excludes(0, "code")},
		{"8 Attrs", attrsOf(p, specs(8))},
		{"8 Attrs of a mark", attrsOfMark(0, specs(8))},
		{"a Must", attrsOf(h, must("level"))},
		{"a Must of an Inline type", attrsOf(br, must("a"))},
		{"a Must of a mark", attrsOfMark(0, must("href"))},
		{"a type's Name of 1", renamed("a")},
		{"a type's Name of 16", renamed(name16)},
		{"a mark's Name of 1", marked("z")},
		{"a mark's Name of 16", marked(name16)},
		{"a mark named as a type", marked("p")},
		{"a mark named as the top", marked("doc")},
		{"a mark named text", marked("text")},
		{"a mark named as a group", marked("inline")},
		{"an attribute named as a type", attrsOf(p, spec("p", ""))},
		{"an attribute's Name of 16", attrsOf(p, spec(name16, ""))},
		{"a Default of 64", attrsOf(p, spec("a", strings.Repeat("~", 64)))},
		{"no groups of one", groups()},
		{"several groups", groups("a", "b", "inline", name16)},
		{"many groups", func(s *api.Schema) { s.Types[hr].Groups = list("a" + strings.Join(letters(500), " a") + " block") }},
		{"a group that has a mark's name", groups("em", "inline")},
		{"text without groups", func(s *api.Schema) { s.Types[text].Groups = nil }},
		{"text in several", func(s *api.Schema) { s.Types[text].Groups = list("a inline z") }},
		{"the top has Marks", marksOf(doc, "code", "em")},
		{"a leaf has Marks", marksOf(hr, "em")},
		{"an Inline type has Marks", marksOf(br, "em")},
		{"Content of blanks", content(hr, "   ")},
		{"Content of blanks of the top", content(doc, "  ")},
		{"Content of 1,024", content(h, "text"+strings.Repeat(" ", 1020))},
		{"Content with brackets", content(li, "((p)) ( h|(hr) )* block{2,16}")},
		{"Content of size 24", content(p, "inline{16} inline{8}")},
		{"Inline types that hold", content(br, "inline*")},
		{"Inline types that hold others", content(br, "block*")},
		{"Content that names what holds it", content(li, "p | li")},
		{"text alone in what can't be made", content(h, "text+")},
		{"Inline types alone, by name and group", content(p, "text br inline (text | inline)")},
		{"a type that needs itself", content(li, "li")},
		{"two types that need one another", func(s *api.Schema) { s.Types[li].Content, s.Types[h].Content = "h", "li" }},
		{"a type that needs Must", func(s *api.Schema) { s.Types[h].Attrs, s.Types[li].Content = must("a"), "h" }},
		{"the top need not hold what can't be made", content(doc, "h* hr")},
		{"the top may hold what needs itself", whole(small("top:a | b", "a:a", "b:"))},
		{"the top needs what is far", whole(small("top:a", "a:b", "b:c", "c:d", "d:e", "e:f", "f:"))},
		{"the top holds text", whole(small("top:text*"))},
		{"the top may hold text", whole(small("top:text | br", "br*:"))},
		{"text ahead of others", func(s *api.Schema) { s.Types[p], s.Types[text] = s.Types[text], s.Types[p] }},
	}
}

// wrongs are changes, of each of which what comes may not be, and is nothing that is too long.
func wrongs() []change {
	return append(append(wrongNames(), wrongTypes()...), wrongContents()...)
}

func wrongNames() []change {
	l := []change{
		{"no type's Name", renamed("")},
		{"no mark's Name", marked("")},
		{"a mark without a Name behind", func(s *api.Schema) { s.Marks = append(s.Marks, api.MarkType{}) }},
		{"no group's name", groups("")},
		{"no name behind a group", groups("inline", "")},
		{"a name of none of Marks", marksOf(h, "")},
		{"an Excludes of none", excludes(1, "")},
		{"an attribute without a Name", attrsOf(p, spec("", ""))},
		{"an attribute of a mark without a Name", attrsOfMark(0, spec("", ""))},
		{"a wrong Default", attrsOf(p, spec("a", "\n"))},
		{"a wrong Default of a mark", attrsOfMark(1, spec("a", "\x7f"))},
		{"a Default of a Must", attrsOf(p, []api.AttrSpec{{Name: "a", Default: "1", Must: true}})},
		{"a Default of a Must of a mark", attrsOfMark(1, []api.AttrSpec{{Name: "a", Default: "1", Must: true}})},
		{"Attrs that fall", attrsOf(p, append(spec("b", ""), spec("a", "")...))},
		{"Attrs that are the same", attrsOf(p, append(spec("a", ""), spec("a", "")...))},
		{"Attrs of a mark that fall", attrsOfMark(0, append(spec("b", ""), spec("a", "")...))},
		{"Attrs of the last mark that are the same", attrsOfMark(1, append(spec("b", ""), spec("b", "")...))},
	}
	for _, name := range []string{"A", "a1", "a b", " ", "a\xff", "\x00", "a-b", "\u00e4", strings.Repeat("N", 16)} {
		l = append(l,
			change{"a type's Name " + name, renamed(name)},
			change{"the top's Name " + name, func(s *api.Schema) { s.Types[doc].Name = name }},
			change{"a mark's Name " + name, func(s *api.Schema) { s.Marks = append(s.Marks, api.MarkType{Name: name}) }},
			change{"a group's name " + name, groups(name)},
			change{"an attribute's Name " + name, attrsOf(h, spec(name, ""))},
			change{"a mark's attribute's Name " + name, attrsOfMark(1, spec(name, ""))},
			change{"one of Marks " + name, marksOf(h, name)},
			change{"one of the Excludes " + name, excludes(1, name)},
		)
	}
	return l
}

func wrongTypes() []change {
	first := func(do func(t *api.NodeType)) func(s *api.Schema) {
		return func(s *api.Schema) { do(&s.Types[doc]) }
	}
	plain := func(do func(t *api.NodeType)) func(s *api.Schema) {
		return func(s *api.Schema) { do(&s.Types[text]) }
	}
	return []change{
		{"nothing at all", whole(api.Schema{})},
		{"Marks alone", whole(api.Schema{Marks: marks(2)})},
		{"1 Type", whole(api.Schema{Types: pages().Types[:1]})},
		{"1 Type that holds nothing", whole(api.Schema{Types: []api.NodeType{{Name: "top"}}})},
		{"1 Type, text", whole(api.Schema{Types: []api.NodeType{{Name: "text", Inline: true}}})},
		{"1 Type, text that is not Inline", whole(api.Schema{Types: []api.NodeType{{Name: "text"}}})},
		{"a Name twice", renamed("br")},
		{"a Name twice, side by side", renamed("li")},
		{"the top's Name twice", renamed("doc")},
		{"text twice", func(s *api.Schema) { s.Types = append(s.Types, s.Types[text]) }},
		{"a type twice", func(s *api.Schema) { s.Types = append(s.Types, s.Types[hr]) }},
		{"a mark's Name twice", func(s *api.Schema) { s.Marks = append(s.Marks, api.MarkType{Name: "em"}) }},
		{"a mark's Name twice, side by side", func(s *api.Schema) { s.Marks = append(s.Marks, api.MarkType{Name: "code"}) }},
		{"17 Marks, where 16 are there", func(s *api.Schema) {
			s.Marks, s.Types[h].Marks = marks(16), nil
			s.Types[p].Marks = letters(17)
		}},

		{"Groups that fall", groups("inline", "a")},
		{"the last Groups fall", groups("a", "inline", "b")},
		{"Groups that are the same", groups("inline", "inline")},
		{"the last Groups are the same", groups("a", "inline", "inline")},
		{"a group that is its own type's Name", groups("br", "inline")},
		{"a group that is another type's Name", groups("hr", "inline")},
		{"a group that is the top's Name", groups("doc", "inline")},
		{"a group that is text", groups("inline", "text")},
		{"a group that is the last type's Name", func(s *api.Schema) { s.Types[p].Groups = list("block li") }},
		{"text in a group text", plain(func(t *api.NodeType) { t.Groups = list("inline text") })},

		{"no text", func(s *api.Schema) { s.Types, s.Types[h].Content = s.Types[:text], "br*" }},
		{"text under another Name", func(s *api.Schema) { s.Types[text].Name, s.Types[h].Content = "words", "words*" }},
		{"text that is not Inline", plain(func(t *api.NodeType) { t.Inline, t.Groups = false, nil })},
		{"text that holds text", plain(func(t *api.NodeType) { t.Content = "text*" })},
		{"text that holds blocks", plain(func(t *api.NodeType) { t.Content = "block*" })},
		{"text whose Content are blanks", plain(func(t *api.NodeType) { t.Content = " " })},
		{"text with an attribute", plain(func(t *api.NodeType) { t.Attrs = spec("a", "") })},
		{"text with a Must", plain(func(t *api.NodeType) { t.Attrs = must("a") })},
		{"text with Marks", plain(func(t *api.NodeType) { t.Marks = list("em") })},

		{"a top that is Inline", first(func(t *api.NodeType) { t.Inline = true })},
		{"a top that is text", func(s *api.Schema) { s.Types[doc], s.Types[text] = s.Types[text], s.Types[doc] }},
		{"a top with an attribute", first(func(t *api.NodeType) { t.Attrs = spec("a", "1") })},
		{"a top with a Must", first(func(t *api.NodeType) { t.Attrs = must("a") })},
		{"a top with a group", first(func(t *api.NodeType) { t.Groups = list("tops") })},
		{"a top in a group that Content names", first(func(t *api.NodeType) { t.Groups = list("block") })},
		{"a top in a group that another Content names", func(s *api.Schema) { s.Types[doc].Groups, s.Types[li].Content = list("tops"), "tops*" }},

		{"Marks that fall", marksOf(p, "em", "code")},
		{"Marks by rank", marksOf(h, "em", "code")},
		{"Marks that stand twice", marksOf(p, "em", "em")},
		{"the last Marks stand twice", marksOf(p, "code", "em", "em")},
		{"Marks that name no mark", marksOf(p, "code", "em", "x")},
		{"Marks that name a type", marksOf(p, "code", "em", "p")},
		{"Marks that name a group", marksOf(p, "block", "code")},
		{"the top's Marks fall", marksOf(doc, "em", "code")},
		{"a leaf's Marks name no mark", marksOf(hr, "a")},
		{"Excludes that fall", func(s *api.Schema) { s.Marks = append(s.Marks, api.MarkType{Name: "b", Excludes: list("em code")}) }},
		{"Excludes that stand twice", excludes(1, "em", "em")},
		{"Excludes that name no mark", excludes(1, "em", "x")},
		{"Excludes that name a type", excludes(1, "em", "p")},
		{"Excludes of the mark itself", excludes(1, "code")},
		{"Excludes of the mark itself and others", excludes(1, "code", "em")},
		{"Excludes of the first mark itself", excludes(0, "code", "em")},
	}
}

func wrongContents() []change {
	l := []change{
		{"the top names itself", content(doc, "block+ doc?")},
		{"the top names itself alone", content(doc, "doc*")},
		{"a Content names the top", content(li, "p doc*")},
		{"a Content names the top alone", content(li, "doc?")},
		{"an Inline type's Content names the top", content(br, "doc*")},

		{"no type or group", content(li, "p x*")},
		{"no type or group, of the top", content(doc, "block+ | x")},
		{"no type or group, of a leaf", content(hr, "x?")},
		{"a group that none has", func(s *api.Schema) { s.Types[text].Groups, s.Types[br].Groups = nil, nil }},
		{"a mark", content(li, "p em*")},
		{"a part of a Name", content(li, "p bloc*")},
		{"a name of 17", content(li, "p "+name17+"*")},
		{"a name of 16", content(li, "p "+name16+"*")},

		{"a block and an Inline type", content(li, "p br*")},
		{"a block and text", content(h, "text* hr?")},
		{"a block or text", content(h, "text | hr")},
		{"groups of both", content(p, "inline* block*")},
		{"a group and another type", content(p, "inline block")},
		{"a group of both", func(s *api.Schema) { s.Types[hr].Groups = list("block inline") }},
		{"a group of both, with text", func(s *api.Schema) { s.Types[text].Groups = list("block inline") }},
		{"both in the top", content(doc, "block+ br?")},
		{"both in an Inline type", content(br, "br* hr*")},

		{"a top that needs what is Must", func(s *api.Schema) { s.Types[doc].Content, s.Types[h].Attrs = "h", must("level") }},
		{"a top that needs a group of Must alone", func(s *api.Schema) {
			for _, i := range []int{p, h, li, hr} {
				s.Types[i].Attrs = append(spec("a", "1"), must("b")...)
			}
		}},
		{"a top that needs text", content(doc, "text")},
		{"a top that needs text behind others", content(doc, "br{2} text")},
		{"a top that needs what needs text", func(s *api.Schema) { s.Types[doc].Content, s.Types[h].Content = "h", "text+" }},
		{"a top that needs what needs itself", whole(small("top:a", "a:a"))},
		{"a top that needs what needs itself, too", whole(small("top:a", "a:b a", "b:"))},
		{"a top that needs two that need one another", whole(small("top:a | b", "a:b", "b:a"))},
		{"a top that needs a ring", whole(small("top:a", "a:b", "b:c", "c:d", "d:a | text"))},
		{"a top that needs what is far, and can't be made", whole(small("top:a", "a:b", "b:c", "c:d", "d:e", "e:text"))},
		{"a top that needs many", whole(small("top:a{2,3}", "a:text | a"))},
	}
	for _, s := range []string{"p |", "| p", "p)", "(p", "()", "p**", "p{3,2}", "p{0}", "p{1}", "p{17}", "p{16,}{2}", "P", "p, h", "p\n", "\t", "p\x00", "\xff", "p{", "p-h", "block{16} block{9}", strings.Repeat("(", 17), nested(17)} {
		l = append(l, change{"li with " + s, content(li, s)}, change{"doc with " + s, content(doc, s)})
	}
	return append(l, change{"Content of 1,025", content(h, "text"+strings.Repeat(" ", 1021))}, change{"Content of 1,025 blanks", content(hr, strings.Repeat(" ", 1025))})
}

// nested is the text of an expression that is nested so deep.
func nested(deep int) string {
	s := "p"
	for range deep - 1 {
		s = "(" + s + ")?"
	}
	return s
}

// longs are changes, of each of which something that comes is too long, or of which there is too much.
func longs() []change {
	long65 := strings.Repeat("1", 65)
	return []change{
		{"33 Types", func(s *api.Schema) {
			for _, name := range letters(33 - len(s.Types)) {
				s.Types = append(s.Types, api.NodeType{Name: name})
			}
		}},
		{"33 Types without names", func(s *api.Schema) { s.Types = append(s.Types, make([]api.NodeType, 33-len(s.Types))...) }},
		{"1,000 Types of one name", func(s *api.Schema) {
			for range 1000 - len(s.Types) {
				s.Types = append(s.Types, api.NodeType{Name: "a"})
			}
		}},
		{"17 Marks", func(s *api.Schema) { s.Marks = append(s.Marks, marks(17-len(s.Marks))...) }},
		{"17 Marks without names", func(s *api.Schema) { s.Marks = append(s.Marks, make([]api.MarkType, 17-len(s.Marks))...) }},
		{"9 Attrs", attrsOf(p, specs(9))},
		{"9 Attrs without names", attrsOf(hr, make([]api.AttrSpec, 9))},
		{"9 Attrs of the top", attrsOf(doc, specs(9))},
		{"9 Attrs of text", attrsOf(text, specs(9))},
		{"9 Attrs of a mark", attrsOfMark(0, specs(9))},
		{"9 Attrs of the last mark", attrsOfMark(1, specs(9))},
		{"a type's Name of 17", renamed(name17)},
		{"the top's Name of 17", func(s *api.Schema) { s.Types[doc].Name = name17 }},
		{"the last type's Name of 17", func(s *api.Schema) { s.Types[text].Name = name17 }},
		{"a type's Name of 17 that is none", renamed(name16 + "N")},
		{"a mark's Name of 17", marked(name17)},
		{"a last mark's Name of 17", func(s *api.Schema) { s.Marks[1].Name = name17 }},
		{"a group of 17", groups(name17)},
		{"a group of 17 behind others", groups("a", "b", name17)},
		{"a group of 17 of the top", func(s *api.Schema) { s.Types[doc].Groups = list(name17) }},
		{"a type's Marks with one of 17", marksOf(p, "code", "em", name17)},
		{"text's Marks with one of 17", marksOf(text, name17)},
		{"the Excludes with one of 17", excludes(1, "em", name17)},
		{"the first mark's Excludes with one of 17", excludes(0, name17)},
		{"an attribute's Name of 17", attrsOf(h, spec(name17, ""))},
		{"an attribute's Name of 17, the last", attrsOf(h, append(spec("a", ""), spec(name17, "")...))},
		{"a mark's attribute's Name of 17", attrsOfMark(0, spec(name17, ""))},
		{"a Default of 65", attrsOf(h, spec("a", long65))},
		{"a Default of 65 of text", attrsOf(text, spec("a", long65))},
		{"a Default of 65 of a mark", attrsOfMark(1, spec("a", long65))},
		{"a Default of 65 of a Must", attrsOf(p, []api.AttrSpec{{Name: "a", Default: long65, Must: true}})},
	}
}

// made is what comes of changes, one behind the other.
func made(l ...change) (string, api.Schema) {
	s, what := pages(), ""
	for _, c := range l {
		// A change behind another one may not find what it changes.
		func() {
			defer func() { _ = recover() }()
			c.do(&s)
		}()
		what += c.what + "; "
	}
	return what, s
}

// P5.1

func TestCheckThatMayBe(t *testing.T) {
	for _, c := range these() {
		if what, s := made(c); schema.Check(s) != api.OK {
			t.Errorf("%s error %d", what, schema.Check(s))
		}
	}
}

func TestCheckThatMayNotBe(t *testing.T) {
	for _, c := range wrongs() {
		if what, s := made(c); schema.Check(s) != api.ErrArg {
			t.Errorf("%s error %d", what, schema.Check(s))
		}
	}
}

func TestCheckThatIsTooLong(t *testing.T) {
	for _, c := range longs() {
		if what, s := made(c); schema.Check(s) != api.ErrLong {
			t.Errorf("%s error %d", what, schema.Check(s))
		}
	}
}

func TestLongIsAheadOfWrong(t *testing.T) {
	// Some changes take away what others have done: these are done last, or to what they leave.
	for _, long := range longs() {
		for _, wrong := range wrongs() {
			if what, s := made(wrong, long); toLong(s) && schema.Check(s) != api.ErrLong {
				t.Errorf("%s error %d", what, schema.Check(s))
			}
			if what, s := made(long, wrong); toLong(s) && schema.Check(s) != api.ErrLong {
				t.Errorf("%s error %d", what, schema.Check(s))
			}
		}
	}
}

// toLong tells whether something of s is too long, as the promise lists it.
func toLong(s api.Schema) bool {
	names, values := []string{}, []string{}
	many := len(s.Types) > 32 || len(s.Marks) > 16
	attrs := func(l []api.AttrSpec) {
		many = many || len(l) > 8
		for _, a := range l {
			names, values = append(names, a.Name), append(values, a.Default)
		}
	}
	for _, t := range s.Types {
		names = append(append(append(names, t.Name), t.Groups...), t.Marks...)
		attrs(t.Attrs)
	}
	for _, m := range s.Marks {
		names = append(append(names, m.Name), m.Excludes...)
		attrs(m.Attrs)
	}
	for _, name := range names {
		many = many || len(name) > 16
	}
	for _, value := range values {
		many = many || len(value) > 64
	}
	return many
}

// The lengths of Contents, and of names in them, are no lengths that Check tells of.
func TestLongContentsAreWrong(t *testing.T) {
	for _, s := range []string{strings.Repeat(" ", 1025), "p " + name17, strings.Repeat("p ", 25), "p{17}", nested(17), strings.Repeat("x", 1<<20)} {
		if what, s := made(change{s, content(li, s)}); schema.Check(s) != api.ErrArg {
			t.Errorf("%.40s error %d", what, schema.Check(s))
		}
	}
}

// Nothing is told of a schema that may not be (P5.2, P5.3).
func TestNothingOfASchemaThatMayNotBe(t *testing.T) {
	for _, c := range append(wrongs(), longs()...) {
		what, s := made(c)
		silent(t, what, s)
	}
	silent(t, "nothing", api.Schema{})
}

func silent(t *testing.T, what string, s api.Schema) {
	t.Helper()
	if l, groups := schema.Made(s), schema.Groups(s); len(l) > 0 || len(groups) > 0 {
		t.Errorf("%s Made %q, Groups %v", what, l, groups)
	}
	names := []string{"", "doc", "p", "h", "li", "hr", "br", "text", "em", "code", "top", "a", "aa", name17}
	for _, name := range names {
		if typ, ok := schema.Type(s, name); ok || !reflect.DeepEqual(typ, api.NodeType{}) {
			t.Errorf("%s Type(%s) = %v, %t", what, name, typ, ok)
		}
		if m, rank, ok := schema.Mark(s, name); ok || rank != -1 || !reflect.DeepEqual(m, api.MarkType{}) {
			t.Errorf("%s Mark(%s) = %v, %d, %t", what, name, m, rank, ok)
		}
		if a, e := schema.Auto(s, name); e != api.ErrArg || len(a.States) > 0 {
			t.Errorf("%s Auto(%s) = %v, error %d", what, name, a, e)
		}
		if l, e := schema.Fewest(s, name); e != api.ErrArg || len(l) > 0 {
			t.Errorf("%s Fewest(%s) = %q, error %d", what, name, l, e)
		}
		if schema.Leaf(s, name) || schema.Inline(s, name) {
			t.Errorf("%s %s is a leaf, or Inline", what, name)
		}
		for _, mark := range names {
			if schema.Allows(s, name, mark) {
				t.Errorf("%s Allows(%s, %s)", what, name, mark)
			}
		}
	}
}
