package schema_test

import (
	"reflect"
	"slices"
	"strconv"
	"strings"
	"testing"

	"copydesk/api"
	"copydesk/attr"
	"copydesk/expr"
	"copydesk/match"
	"copydesk/schema"
)

var name16, name17 = strings.Repeat("n", 16), strings.Repeat("n", 17)

// The places of the types of pages.
const (
	doc = iota
	p
	h
	li
	hr
	br
	text
)

// pages is the schema of the pages, in memory of its own.
func pages() api.Schema {
	return api.Schema{Types: []api.NodeType{
		{Name: "doc", Content: "block+"},
		{Name: "p", Content: "inline*", Groups: list("block"), Marks: list("code em")},
		{Name: "h", Content: "text*", Groups: list("block"), Attrs: []api.AttrSpec{{Name: "level", Default: "1"}}, Marks: list("em")},
		{Name: "li", Content: "p block*", Groups: list("block")},
		{Name: "hr", Groups: list("block")},
		{Name: "br", Inline: true, Groups: list("inline")},
		{Name: "text", Inline: true, Groups: list("inline")},
	}, Marks: []api.MarkType{{Name: "em"}, {Name: "code", Excludes: list("em")}}}
}

func list(s string) []string {
	return strings.Fields(s)
}

// small is a schema of types told as "name: content"; those after the first that have a * behind the name are Inline. The type text stands last.
func small(types ...string) api.Schema {
	var s api.Schema
	for _, one := range types {
		name, content, _ := strings.Cut(one, ":")
		t := api.NodeType{Name: strings.TrimSuffix(name, "*"), Content: content, Inline: strings.HasSuffix(name, "*")}
		s.Types = append(s.Types, t)
	}
	s.Types = append(s.Types, api.NodeType{Name: "text", Inline: true})
	return s
}

// may fails unless s may be.
func may(t *testing.T, s api.Schema) api.Schema {
	t.Helper()
	if e := schema.Check(s); e != api.OK {
		t.Fatalf("%v: error %d", s, e)
	}
	return s
}

// machine is the one of a text, made without package schema.
func machine(t *testing.T, content string, groups ...api.Group) api.Auto {
	t.Helper()
	e, _, err := expr.Parse(content)
	if err != api.OK {
		t.Fatalf("Parse(%q): error %d", content, err)
	}
	a, err := match.Make(e, groups)
	if err != api.OK {
		t.Fatalf("Make of %q: error %d", content, err)
	}
	return a
}

// strangers are names that nothing of pages has.
func strangers() []string {
	return []string{"", " ", "P", "pp", "d", "block", "inline", "level", "docs", "doc ", "p\x00", "\xff", name16, name17}
}

// P5.2

func TestType(t *testing.T) {
	s := pages()
	for _, want := range pages().Types {
		if got, ok := schema.Type(s, want.Name); !ok || !reflect.DeepEqual(got, want) {
			t.Errorf("Type(%s) = %v, %t, want %v", want.Name, got, ok, want)
		}
	}
	for _, name := range append(strangers(), "em", "code") {
		if got, ok := schema.Type(s, name); ok || !reflect.DeepEqual(got, api.NodeType{}) {
			t.Errorf("Type(%q) = %v, %t", name, got, ok)
		}
	}
}

func TestMark(t *testing.T) {
	s := pages()
	s.Marks = append(s.Marks, api.MarkType{Name: "a", Attrs: []api.AttrSpec{{Name: "href", Must: true}}}, api.MarkType{Name: "p"})
	for rank, want := range s.Marks {
		if got, at, ok := schema.Mark(s, want.Name); !ok || at != rank || !reflect.DeepEqual(got, want) {
			t.Errorf("Mark(%s) = %v, %d, %t", want.Name, got, at, ok)
		}
	}
	for _, name := range []string{"", " ", "b", "e", "emm", "Em", "doc", "text", "href", "block", "\xff", name17} {
		if got, at, ok := schema.Mark(s, name); ok || at != -1 || !reflect.DeepEqual(got, api.MarkType{}) {
			t.Errorf("Mark(%q) = %v, %d, %t", name, got, at, ok)
		}
	}
	s = may(t, small("top:"))
	if got, at, ok := schema.Mark(s, "em"); ok || at != -1 || !reflect.DeepEqual(got, api.MarkType{}) {
		t.Errorf("of no marks: %v, %d, %t", got, at, ok)
	}
}

func TestGroups(t *testing.T) {
	group := func(name, types string) api.Group { return api.Group{Name: name, Types: list(types)} }
	if got, want := schema.Groups(pages()), []api.Group{group("block", "h hr li p"), group("inline", "br text")}; !reflect.DeepEqual(got, want) {
		t.Errorf("%v, want %v", got, want)
	}
	s := pages()
	s.Types[text].Groups = nil
	s.Types[br].Groups = list("a inline z")
	s.Types[hr].Groups = list("b block z")
	s.Types[p].Groups = list("block em " + name16)
	want := []api.Group{group("a", "br"), group("b", "hr"), group("block", "h hr li p"), group("em", "p"), group("inline", "br"), group(name16, "p"), group("z", "br hr")}
	if got := schema.Groups(may(t, s)); !reflect.DeepEqual(got, want) {
		t.Errorf("%v, want %v", got, want)
	}
	if got := schema.Groups(may(t, small("top:"))); len(got) > 0 {
		t.Errorf("of no groups: %v", got)
	}
	s = full()
	for i := range s.Types[1:] {
		s.Types[i+1].Groups = list("all")
	}
	if got := schema.Groups(may(t, s)); len(got) != 1 || len(got[0].Types) != 31 || !slices.IsSorted(got[0].Types) {
		t.Errorf("a group of 31: %v", got)
	}
}

func TestAuto(t *testing.T) {
	s := pages()
	block, inline := api.Group{Name: "block", Types: list("h hr li p")}, api.Group{Name: "inline", Types: list("br text")}
	for _, typ := range s.Types {
		if a, e := schema.Auto(s, typ.Name); e != api.OK || !match.Same(a, machine(t, typ.Content, block, inline)) {
			t.Errorf("Auto(%s) = %v, error %d", typ.Name, a, e)
		}
	}
	a, _ := schema.Auto(s, "li")
	for row, want := range map[string]bool{"p": true, "p hr": true, "p li h p": true, "": false, "h": false, "h p": false, "p text": false, "p block": false, "p doc": false} {
		if match.Fits(a, list(row)) != want {
			t.Errorf("li with %q: not %t", row, want)
		}
	}
	for _, name := range append(strangers(), "em", "code") {
		if a, e := schema.Auto(s, name); e != api.ErrNone || len(a.States) > 0 {
			t.Errorf("Auto(%q) = %v, error %d", name, a, e)
		}
	}
	s.Types[p].Content = "  inline  {2 , 3} "
	if a, e := schema.Auto(s, "p"); e != api.OK || !match.Same(a, machine(t, "(br | text) (br | text) (br | text)?")) {
		t.Errorf("with blanks: %v, error %d", a, e)
	}
}

func TestLeaf(t *testing.T) {
	s := pages()
	for _, content := range []string{"", " ", "  ", strings.Repeat(" ", 1024)} {
		s.Types[hr].Content, s.Types[br].Content = content, content
		may(t, s)
		for name, want := range map[string]bool{"hr": true, "br": true, "text": false, "doc": false, "p": false, "h": false, "li": false} {
			if schema.Leaf(s, name) != want {
				t.Errorf("Content %q: Leaf(%s) is not %t", content, name, want)
			}
		}
	}
	for _, name := range append(strangers(), "em", "code") {
		if schema.Leaf(s, name) {
			t.Errorf("Leaf(%q)", name)
		}
	}
	s.Types[hr].Content = "text?"
	if schema.Leaf(s, "hr") {
		t.Error("what need not hold anything is none")
	}
	if s := may(t, small("top:")); !schema.Leaf(s, "top") || schema.Leaf(s, "text") {
		t.Error("a top that holds nothing")
	}
}

func TestInline(t *testing.T) {
	s := pages()
	for name, want := range map[string]bool{"br": true, "text": true, "hr": false, "doc": false, "p": false, "h": false, "li": false} {
		if schema.Inline(s, name) != want {
			t.Errorf("Inline(%s) is not %t", name, want)
		}
	}
	for _, name := range append(strangers(), "em", "code") {
		if schema.Inline(s, name) {
			t.Errorf("Inline(%q)", name)
		}
	}
}

func TestAllows(t *testing.T) {
	s := pages()
	s.Types[li].Marks = list("em")
	for _, typ := range append(strangers(), "doc", "p", "h", "li", "hr", "br", "text", "em", "code") {
		for _, mark := range append(strangers(), "doc", "p", "text", "em", "code", "") {
			want := typ == "p" && mark == "code" || mark == "em" && strings.Contains(" p h li ", " "+typ+" ") && attr.Name(typ)
			if schema.Allows(s, typ, mark) != want {
				t.Errorf("Allows(%q, %q) is not %t", typ, mark, want)
			}
		}
	}
}

// What holds of a mark holds of it where a type, or a group, has the same name, too.
func TestMarksNamedAsTypes(t *testing.T) {
	s := pages()
	s.Marks = []api.MarkType{{Name: "text"}, {Name: "block", Excludes: list("doc text")}, {Name: "doc"}}
	s.Types[p].Marks, s.Types[h].Marks = list("block doc text"), list("text")
	may(t, s)
	for rank, m := range s.Marks {
		if got, at, ok := schema.Mark(s, m.Name); !ok || at != rank || !reflect.DeepEqual(got, m) {
			t.Errorf("Mark(%s) = %v, %d, %t", m.Name, got, at, ok)
		}
	}
	if got, ok := schema.Type(s, "text"); !ok || !got.Inline || !schema.Allows(s, "h", "text") || schema.Allows(s, "h", "doc") {
		t.Errorf("Type(text) = %v, %t", got, ok)
	}
}

// What is handed in, and what is answered (Rules, 3 and 4).

// roomy is l with more behind it that none of it may tell.
func roomy[T any](l []T, more ...T) []T {
	return append(append(make([]T, 0, len(l)+len(more)), l...), more...)[:len(l)]
}

// spacious is pages with wrong things in all spare room.
func spacious() api.Schema {
	s := pages()
	s.Types[p].Attrs = []api.AttrSpec{{Name: "x", Default: "1"}}
	s.Marks[1].Attrs = []api.AttrSpec{{Name: "y", Default: "2"}}
	for i := range s.Types {
		s.Types[i].Groups = roomy(s.Types[i].Groups, name17, "zz")
		s.Types[i].Marks = roomy(s.Types[i].Marks, name17, "zz")
		s.Types[i].Attrs = roomy(s.Types[i].Attrs, api.AttrSpec{Name: name17}, api.AttrSpec{Name: "zz", Must: true})
	}
	for i := range s.Marks {
		s.Marks[i].Excludes = roomy(s.Marks[i].Excludes, name17, "zz")
		s.Marks[i].Attrs = roomy(s.Marks[i].Attrs, api.AttrSpec{Name: name17}, api.AttrSpec{Name: "zz", Must: true})
	}
	s.Types = roomy(s.Types, api.NodeType{Name: name17}, api.NodeType{Name: "zz", Content: "zz"})
	s.Marks = roomy(s.Marks, api.MarkType{Name: name17}, api.MarkType{Name: "zz"})
	return s
}

// shown is all of s, its spare room too.
func shown(s api.Schema) string {
	var b strings.Builder
	texts := func(l []string) {
		b.WriteString(strings.Join(l[:cap(l)], ",") + ";")
	}
	attrs := func(l []api.AttrSpec) {
		for _, a := range l[:cap(l)] {
			b.WriteString(a.Name + "=" + a.Default + strconv.FormatBool(a.Must) + ",")
		}
	}
	for _, t := range s.Types[:cap(s.Types)] {
		b.WriteString("\n" + t.Name + ":" + t.Content + strconv.FormatBool(t.Inline))
		texts(t.Groups)
		texts(t.Marks)
		attrs(t.Attrs)
	}
	for _, m := range s.Marks[:cap(s.Marks)] {
		b.WriteString("\n" + m.Name + ":")
		texts(m.Excludes)
		attrs(m.Attrs)
	}
	return b.String()
}

// spoil overwrites all of a list, its spare room too.
func spoil[T any](l []T) {
	clear(l[:cap(l)])
}

// all calls everything of s, and spoils what is answered.
func all(s api.Schema) {
	schema.Check(s)
	for _, name := range append(strangers(), "doc", "p", "h", "li", "hr", "br", "text", "em", "code", "zz") {
		typ, _ := schema.Type(s, name)
		spoil(typ.Groups)
		spoil(typ.Marks)
		spoil(typ.Attrs)
		m, _, _ := schema.Mark(s, name)
		spoil(m.Excludes)
		spoil(m.Attrs)
		a, _ := schema.Auto(s, name)
		for _, state := range a.States {
			spoil(state.Edges)
		}
		spoil(a.States)
		row, _ := schema.Fewest(s, name)
		spoil(row)
		schema.Leaf(s, name)
		schema.Inline(s, name)
		schema.Allows(s, name, "em")
	}
	for _, g := range schema.Groups(s) {
		spoil(g.Types)
	}
	spoil(schema.Groups(s))
	spoil(schema.Made(s))
}

func TestSchemasStayAsTheyAre(t *testing.T) {
	s := may(t, spacious())
	want := shown(s)
	all(s)
	if got := shown(s); got != want {
		t.Errorf("%s\nwas %s", got, want)
	}
	s.Types[doc].Content = "block+ zz"
	if schema.Check(s) != api.ErrArg {
		t.Error("the spare room of Types was read")
	}
	want = shown(s)
	all(s)
	if got := shown(s); got != want {
		t.Errorf("of one that may not be: %s\nwas %s", got, want)
	}
}

func TestAnswersAreNewMemory(t *testing.T) {
	s := spacious()
	typ, _ := schema.Type(s, "p")
	m, _, _ := schema.Mark(s, "code")
	groups, made := schema.Groups(s), schema.Made(s)
	row, _ := schema.Fewest(s, "doc")
	for i := range s.Types {
		spoil(s.Types[i].Groups)
		spoil(s.Types[i].Marks)
		spoil(s.Types[i].Attrs)
	}
	for i := range s.Marks {
		spoil(s.Marks[i].Excludes)
		spoil(s.Marks[i].Attrs)
	}
	spoil(s.Types)
	spoil(s.Marks)
	for i := range groups {
		_ = append(groups[i].Types, "x", "x", "x", "x")
	}
	_ = append(typ.Groups, "x", "x")
	_ = append(typ.Marks, "x", "x")
	s = spacious()
	if want := s.Types[p]; !reflect.DeepEqual(typ, want) {
		t.Errorf("Type: %v, want %v", typ, want)
	}
	if want := s.Marks[1]; !reflect.DeepEqual(m, want) {
		t.Errorf("Mark: %v, want %v", m, want)
	}
	if !reflect.DeepEqual(groups, schema.Groups(pages())) || !slices.Equal(made, schema.Made(pages())) || !slices.Equal(row, list("h")) {
		t.Errorf("%v, %q, %q", groups, made, row)
	}
}

func TestNilAndEmptyAreTheSame(t *testing.T) {
	s := pages()
	for i := range s.Types {
		s.Types[i].Groups = append([]string{}, s.Types[i].Groups...)
		s.Types[i].Marks = append([]string{}, s.Types[i].Marks...)
		s.Types[i].Attrs = append([]api.AttrSpec{}, s.Types[i].Attrs...)
	}
	for i := range s.Marks {
		s.Marks[i].Excludes = append([]string{}, s.Marks[i].Excludes...)
		s.Marks[i].Attrs = append([]api.AttrSpec{}, s.Marks[i].Attrs...)
	}
	if may(t, s); !slices.Equal(schema.Made(s), schema.Made(pages())) || !reflect.DeepEqual(schema.Groups(s), schema.Groups(pages())) {
		t.Error(schema.Made(s), schema.Groups(s))
	}
	s = small("top:")
	s.Marks = []api.MarkType{}
	may(t, s)
	if e := schema.Check(api.Schema{Types: []api.NodeType{}, Marks: []api.MarkType{}}); e != api.ErrArg {
		t.Errorf("of nothing: error %d", e)
	}
}
