package node_test

import (
	"regexp"
	"slices"
	"strconv"
	"strings"
	"testing"

	"copydesk/api"
	"copydesk/attr"
	"copydesk/mark"
	"copydesk/schema"
)

var name17 = strings.Repeat("n", 17)

// pages is the schema of the pages, in memory of its own.
func pages() api.Schema {
	return api.Schema{Types: []api.NodeType{
		{Name: "doc", Content: "block+"},
		{Name: "p", Content: "inline*", Groups: list("block"), Marks: list("code em")},
		{Name: "h", Content: "text*", Groups: list("block"), Attrs: []api.AttrSpec{{Name: "level", Default: "1"}}, Marks: list("em")},
		{Name: "li", Content: "p block*", Groups: list("block")},
		{Name: "hr", Groups: list("block")},
		{Name: "br", Inline: true, Groups: list("inline")},
		{Name: "text", Inline: true, Groups: list("inline")},
	}, Marks: []api.MarkType{{Name: "em"}, {Name: "code", Excludes: list("em")}}}
}

// books is a schema with what the pages' has not: numbers of Kids, attributes that must be told, marks on blocks, marks with attributes,
// a leaf whose Content are blanks, blocks within what is Inline.
func books() api.Schema {
	return api.Schema{Types: []api.NodeType{
		{Name: "top", Content: "head? sec+", Marks: list("note")},
		{Name: "head", Content: "text{0,3}", Marks: list("a b")},
		{Name: "sec", Content: "flow*", Marks: list("note sub")},
		{Name: "par", Content: "(text | img | foot)*", Groups: list("flow"), Marks: list("a b sub sup")},
		{Name: "fig", Content: "par?", Groups: list("flow"), Attrs: specs("alt src!")},
		{Name: "rows", Content: "row{2,3}", Groups: list("flow"), Attrs: specs("kind=dots")},
		{Name: "row", Content: "par flow*", Marks: list("note")},
		{Name: "hr", Content: "  ", Groups: list("flow")},
		{Name: "text", Inline: true},
		{Name: "img", Inline: true, Attrs: specs("src!")},
		{Name: "foot", Content: "par{1,2}", Inline: true},
	}, Marks: []api.MarkType{
		{Name: "sub", Excludes: list("sup")}, {Name: "sup", Excludes: list("sub")}, {Name: "a", Attrs: specs("href! title")},
		{Name: "b"}, {Name: "note", Attrs: specs("by=x"), Excludes: list("sub")},
	}}
}

// small is a schema of types, told each as "name: Content ; attributes", and of text.
func small(types ...string) api.Schema {
	var s api.Schema
	for _, one := range types {
		one, attrs, _ := strings.Cut(one, ";")
		name, content, _ := strings.Cut(one, ":")
		s.Types = append(s.Types, api.NodeType{Name: name, Content: content, Attrs: specs(attrs)})
	}
	s.Types = append(s.Types, api.NodeType{Name: "text", Inline: true})
	return s
}

// specs are told each as "name=default", those that are Must as "name!".
func specs(s string) []api.AttrSpec {
	var l []api.AttrSpec
	for _, one := range list(s) {
		name, value, _ := strings.Cut(one, "=")
		plain := strings.TrimSuffix(name, "!")
		l = append(l, api.AttrSpec{Name: plain, Default: value, Must: plain != name})
	}
	return l
}

func list(s string) []string {
	return strings.Fields(s)
}

// may fails unless s may be.
func may(t testing.TB, s api.Schema) api.Schema {
	t.Helper()
	if e := schema.Check(s); e != api.OK {
		t.Fatalf("%v: error %d", s, e)
	}
	return s
}

// A node is told as its type, and behind it, in any order: [its attributes], ^each mark[with attributes], 'its Text', (its Kids).
// A text needs no type: doc(h[level=1]('a' 'b'^em)).

// tree is the node that s tells.
func tree(s string) api.Node {
	l, _ := trees(s)
	if len(l) != 1 {
		panic(s)
	}
	return l[0]
}

// forest are the nodes that s tells.
func forest(s string) []api.Node {
	l, rest := trees(s)
	if rest != "" {
		panic(s)
	}
	return l
}

func trees(s string) ([]api.Node, string) {
	var l []api.Node
	for s = strings.TrimLeft(s, " "); s != "" && s[0] != ')'; s = strings.TrimLeft(s, " ") {
		var n api.Node
		n, s = one(s)
		l = append(l, n)
	}
	return l, s
}

func one(s string) (api.Node, string) {
	var n api.Node
	n.Type, s = name(s)
	if n.Type == "" && s[0] == '\'' {
		n.Type = "text"
	}
	for s != "" {
		switch s[0] {
		case '[':
			n.Attrs, s = attrs(s)
		case '^':
			var m api.Mark
			if m.Type, s = name(s[1:]); strings.HasPrefix(s, "[") {
				m.Attrs, s = attrs(s)
			}
			n.Marks = append(n.Marks, m)
		case '\'':
			n.Text, s, _ = strings.Cut(s[1:], "'")
		case '(':
			n.Kids, s = trees(s[1:])
			s = s[1:]
		case ' ', ')':
			return n, s
		default:
			panic(s)
		}
	}
	return n, s
}

func name(s string) (string, string) {
	i := strings.IndexAny(s+" ", " ()[]^'")
	return s[:i], s[i:]
}

func attrs(s string) ([]api.Attr, string) {
	all, rest, _ := strings.Cut(s[1:], "]")
	var l []api.Attr
	for _, one := range strings.Split(all, ",") {
		name, value, _ := strings.Cut(one, "=")
		l = append(l, api.Attr{Name: name, Value: value})
	}
	return l, rest
}

// shown is all of n, as a node is told here.
func shown(n api.Node) string {
	var b strings.Builder
	b.WriteString(n.Type + shownAttrs(n.Attrs))
	for _, m := range n.Marks {
		b.WriteString("^" + m.Type + shownAttrs(m.Attrs))
	}
	if n.Text != "" {
		b.WriteString(strconv.Quote(n.Text))
	}
	if len(n.Kids) > 0 {
		b.WriteString("(" + shownAll(n.Kids) + ")")
	}
	return b.String()
}

func shownAttrs(l []api.Attr) string {
	if len(l) == 0 {
		return ""
	}
	var all []string
	for _, a := range l {
		all = append(all, a.Name+"="+strconv.Quote(a.Value))
	}
	return "[" + strings.Join(all, ",") + "]"
}

func shownAll(l []api.Node) string {
	var all []string
	for _, n := range l {
		all = append(all, shown(n))
	}
	return strings.Join(all, " ")
}

// alike tells whether both are the same, by their fields.
func alike(a, b api.Node) bool {
	marks := func(x, y api.Mark) bool { return x.Type == y.Type && slices.Equal(x.Attrs, y.Attrs) }
	return a.Type == b.Type && a.Text == b.Text && slices.Equal(a.Attrs, b.Attrs) && slices.EqualFunc(a.Marks, b.Marks, marks) && allAlike(a.Kids, b.Kids)
}

func allAlike(a, b []api.Node) bool {
	return slices.EqualFunc(a, b, alike)
}

// within is n in so many li, each of which has a p, but the innermost one.
func within(n api.Node, times int) api.Node {
	for range times {
		kids := []api.Node{{Type: "p"}, n}
		if n.Type == "p" {
			kids = kids[1:]
		}
		n = api.Node{Type: "li", Kids: kids}
	}
	return n
}

// doc is a document with these Kids.
func doc(kids ...api.Node) api.Node {
	return api.Node{Type: "doc", Kids: kids}
}

// tower is n in nodes without a type, one within the other, so that it is nested so much deeper.
func tower(n api.Node, more int) api.Node {
	for range more {
		n = api.Node{Kids: []api.Node{n}}
	}
	return n
}

// What follows goes by the words of the document, one thing behind the other.

func typeOf(s api.Schema, name string) (api.NodeType, bool) {
	for _, t := range s.Types {
		if t.Name == name {
			return t, true
		}
	}
	return api.NodeType{}, false
}

func sizeByWords(s api.Schema, n api.Node) int {
	if n.Type == "text" {
		return len(n.Text)
	}
	if t, ok := typeOf(s, n.Type); ok && strings.Trim(t.Content, " ") == "" && schema.Check(s) == api.OK {
		return 1
	}
	size := 2
	for _, kid := range n.Kids {
		size += sizeByWords(s, kid)
	}
	return size
}

func deepByWords(n api.Node) int {
	if len(n.Kids) == 0 {
		return 1
	}
	var all []int
	for _, kid := range n.Kids {
		all = append(all, deepByWords(kid))
	}
	return 1 + slices.Max(all)
}

// row is l as letters, one a type of s; strangers are ?.
func row(s api.Schema, l []string) string {
	var b strings.Builder
	for _, name := range l {
		i := slices.IndexFunc(s.Types, func(t api.NodeType) bool { return t.Name == name })
		if i < 0 {
			b.WriteByte('?')
			continue
		}
		b.WriteByte(byte('A' + i))
	}
	return b.String()
}

var names = regexp.MustCompile("[a-z]+")

// fitsContent tells whether a row of types fits a Content, as a regular expression over letters.
func fitsContent(s api.Schema, content string, types []string) bool {
	content = names.ReplaceAllStringFunc(content, func(name string) string {
		stands := []string{name}
		if _, ok := typeOf(s, name); !ok {
			stands = nil
			for _, t := range s.Types {
				if slices.Contains(t.Groups, name) {
					stands = append(stands, t.Name)
				}
			}
		}
		return "[" + row(s, stands) + "]"
	})
	return regexp.MustCompile("^(?:" + strings.ReplaceAll(content, " ", "") + ")$").MatchString(row(s, types))
}

var printable = regexp.MustCompile("^[ -~]+$")

// mayByWords tells whether n may be, by s, which may be, however deep and great it is.
func mayByWords(s api.Schema, n api.Node) bool {
	t, ok := typeOf(s, n.Type)
	if !ok || !attr.Fits(t.Attrs, n.Attrs) || mark.Check(s, n.Marks) != api.OK {
		return false
	}
	if n.Type == "text" && (!printable.MatchString(n.Text) || len(n.Attrs) > 0 || len(n.Kids) > 0) {
		return false
	}
	if n.Type != "text" && n.Text != "" {
		return false
	}
	var types []string
	for i, kid := range n.Kids {
		types = append(types, kid.Type)
		for _, m := range kid.Marks {
			if !slices.Contains(t.Marks, m.Type) {
				return false
			}
		}
		if i > 0 && sameText(n.Kids[i-1], kid) || !mayByWords(s, kid) {
			return false
		}
	}
	return fitsContent(s, t.Content, types)
}

func sameText(a, b api.Node) bool {
	a.Text, b.Text, a.Attrs, b.Attrs, a.Kids, b.Kids = "", "", nil, nil, nil, nil
	return a.Type == "text" && alike(a, b)
}

func checkByWords(s api.Schema, n api.Node) api.Errno {
	if e := schema.Check(s); e != api.OK {
		return e
	}
	if deepByWords(n) > 16 || sizeByWords(s, n) > 65536 {
		return api.ErrLong
	}
	if !mayByWords(s, n) {
		return api.ErrShape
	}
	return api.OK
}

func documentByWords(s api.Schema, n api.Node) api.Errno {
	e := checkByWords(s, n)
	if e == api.OK && (n.Type != s.Types[0].Name || len(n.Marks) > 0) {
		return api.ErrShape
	}
	return e
}

// formByWords puts l in one form: the Kids first, then texts go, one by one, and two at a time are put together.
func formByWords(l []api.Node) []api.Node {
	l = slices.Clone(l)
	for i := range l {
		l[i].Kids = formByWords(l[i].Kids)
	}
	for i := 0; i < len(l); {
		if l[i].Type == "text" && l[i].Text == "" {
			l = slices.Delete(l, i, i+1)
			continue
		}
		i++
	}
	for i := 1; i < len(l); {
		if sameText(l[i-1], l[i]) {
			l[i-1].Text += l[i].Text
			l = slices.Delete(l, i, i+1)
			continue
		}
		i++
	}
	return l
}
