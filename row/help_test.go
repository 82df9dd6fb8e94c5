package row_test

import (
	"slices"
	"strconv"
	"strings"
	"testing"

	"copydesk/api"
	"copydesk/attr"
	"copydesk/mark"
	"copydesk/node"
	"copydesk/schema"
)

const (
	ok    = api.OK
	arg   = api.ErrArg
	long  = api.ErrLong
	place = api.ErrPlace
	shape = api.ErrShape
)

var name17 = strings.Repeat("n", 17)

// pages is the schema of the pages, in memory of its own.
func pages() api.Schema {
	return api.Schema{Types: []api.NodeType{
		{Name: "doc", Content: "block+"},
		{Name: "p", Content: "inline*", Groups: list("block"), Marks: list("code em")},
		{Name: "h", Content: "text*", Groups: list("block"), Attrs: []api.AttrSpec{{Name: "level", Default: "1"}}, Marks: list("em")},
		{Name: "li", Content: "p block*", Groups: list("block")},
		{Name: "hr", Groups: list("block")},
		{Name: "br", Inline: true, Groups: list("inline")},
		{Name: "text", Inline: true, Groups: list("inline")},
	}, Marks: []api.MarkType{{Name: "em"}, {Name: "code", Excludes: list("em")}}}
}

// books is a schema with what the pages' has not: a document without Kids, attributes that must be told, marks on blocks and on leaves,
// marks with attributes, a leaf whose Content are blanks, blocks within what is Inline, a top that is not the first by name.
func books() api.Schema {
	return api.Schema{Types: []api.NodeType{
		{Name: "top", Content: "sec*", Marks: list("note")},
		{Name: "sec", Content: "flow*", Marks: list("note sub")},
		{Name: "par", Content: "(text | img | foot)*", Groups: list("flow"), Marks: list("a b sub sup")},
		{Name: "fig", Content: "par?", Groups: list("flow"), Attrs: specs("alt src!")},
		{Name: "hr", Content: "  ", Groups: list("flow")},
		{Name: "text", Inline: true},
		{Name: "img", Inline: true, Attrs: specs("src!")},
		{Name: "foot", Content: "par{1,2}", Inline: true},
	}, Marks: []api.MarkType{
		{Name: "sub", Excludes: list("sup")}, {Name: "sup", Excludes: list("sub")}, {Name: "a", Attrs: specs("href! title")},
		{Name: "b"}, {Name: "note", Attrs: specs("by=x"), Excludes: list("sub")},
	}}
}

// small is a schema of types, told each as "name: Content ; attributes", and of text.
func small(types ...string) api.Schema {
	var s api.Schema
	for _, one := range types {
		one, attrs, _ := strings.Cut(one, ";")
		name, content, _ := strings.Cut(one, ":")
		s.Types = append(s.Types, api.NodeType{Name: name, Content: content, Attrs: specs(attrs)})
	}
	s.Types = append(s.Types, api.NodeType{Name: "text", Inline: true})
	return s
}

// specs are told each as "name=default", those that are Must as "name!".
func specs(s string) []api.AttrSpec {
	var l []api.AttrSpec
	for _, one := range list(s) {
		name, value, _ := strings.Cut(one, "=")
		plain := strings.TrimSuffix(name, "!")
		l = append(l, api.AttrSpec{Name: plain, Default: value, Must: plain != name})
	}
	return l
}

func list(s string) []string {
	return strings.Fields(s)
}

// may fails unless s may be.
func may(t testing.TB, s api.Schema) api.Schema {
	t.Helper()
	if e := schema.Check(s); e != ok {
		t.Fatalf("%v: error %d", s, e)
	}
	return s
}

// A node is told as its type, and behind it, in any order: [its attributes], ^each mark[with attributes], 'its Text', (its Kids).
// A text needs no type: doc(h[level=1]('a' 'b'^em)).

// tree is the node that s tells.
func tree(s string) api.Node {
	l, rest := trees(s)
	if len(l) != 1 || rest != "" {
		panic(s)
	}
	return l[0]
}

func trees(s string) ([]api.Node, string) {
	var l []api.Node
	for s = strings.TrimLeft(s, " "); s != "" && s[0] != ')'; s = strings.TrimLeft(s, " ") {
		var n api.Node
		n, s = one(s)
		l = append(l, n)
	}
	return l, s
}

func one(s string) (api.Node, string) {
	var n api.Node
	n.Type, s = name(s)
	if n.Type == "" && s[0] == '\'' {
		n.Type = "text"
	}
	for s != "" {
		switch s[0] {
		case '[':
			n.Attrs, s = attrs(s)
		case '^':
			n.Marks, s = marks(s)
		case '\'':
			n.Text, s, _ = strings.Cut(s[1:], "'")
		case '(':
			n.Kids, s = trees(s[1:])
			s = s[1:]
		case ' ', ')':
			return n, s
		default:
			panic(s)
		}
	}
	return n, s
}

func name(s string) (string, string) {
	i := strings.IndexAny(s+" ", " ()[]^'")
	return s[:i], s[i:]
}

func attrs(s string) ([]api.Attr, string) {
	all, rest, _ := strings.Cut(s[1:], "]")
	var l []api.Attr
	for _, one := range strings.Split(all, ",") {
		name, value, _ := strings.Cut(one, "=")
		l = append(l, api.Attr{Name: name, Value: value})
	}
	return l, rest
}

func marks(s string) ([]api.Mark, string) {
	var l []api.Mark
	for strings.HasPrefix(s, "^") {
		var m api.Mark
		if m.Type, s = name(s[1:]); strings.HasPrefix(s, "[") {
			m.Attrs, s = attrs(s)
		}
		l = append(l, m)
	}
	return l, s
}

// A row is told as its tokens, blanks between them: a TokOpen as (type, a TokLeaf as /type, with [attributes] and ^marks behind,
// a TokClose as ), TokChars as 'bytes' with ^marks behind: (p 'ab'^em ) /hr.

// tokens are those that s tells.
func tokens(s string) []api.Token {
	var l []api.Token
	for s = strings.TrimLeft(s, " "); s != ""; s = strings.TrimLeft(s, " ") {
		var t api.Token
		words, head := "", s[0]
		switch head {
		case '(', '/':
			t.Kind = api.TokOpen
			if head == '/' {
				t.Kind = api.TokLeaf
			}
			if t.Type, s = name(s[1:]); strings.HasPrefix(s, "[") {
				t.Attrs, s = attrs(s)
			}
		case ')':
			t.Kind, s = api.TokClose, s[1:]
		case '\'':
			t.Kind = api.TokChar
			words, s, _ = strings.Cut(s[1:], "'")
		default:
			panic(s)
		}
		t.Marks, s = marks(s)
		if head != '\'' {
			l = append(l, t)
		}
		for _, c := range []byte(words) {
			t.Char = c
			l = append(l, cloned(t))
		}
	}
	return l
}

// token is the one that s tells.
func token(s string) api.Token {
	l := tokens(s)
	if len(l) != 1 {
		panic(s)
	}
	return l[0]
}

// cloned is t in memory of its own.
func cloned(t api.Token) api.Token {
	t.Attrs, t.Marks = slices.Clone(t.Attrs), slices.Clone(t.Marks)
	for i := range t.Marks {
		t.Marks[i].Attrs = slices.Clone(t.Marks[i].Attrs)
	}
	return t
}

func clones(l []api.Token) []api.Token {
	l = slices.Clone(l)
	for i, t := range l {
		l[i] = cloned(t)
	}
	return l
}

// then are rows, one behind the other, in memory of their own.
func then(rows ...[]api.Token) []api.Token {
	return clones(slices.Concat(rows...))
}

// times is l so often.
func times(l []api.Token, n int) []api.Token {
	return clones(slices.Repeat(l, n))
}

// shown is all of l, as a row is told here, as far as it can be.
func shown(l []api.Token) string {
	if len(l) > 50 {
		return shown(l[:25]) + " .. " + shown(l[len(l)-25:])
	}
	var all []string
	for _, t := range l {
		s := strconv.Itoa(t.Kind) + ":"
		if t.Kind >= 1 && t.Kind <= 4 {
			s = list("( ) / '")[t.Kind-1]
		}
		s += t.Type + shownAttrs(t.Attrs)
		if t.Char != 0 {
			s += strconv.QuoteToASCII(string(rune(t.Char)))
		}
		all = append(all, s+shownMarks(t.Marks))
	}
	return strings.Join(all, " ")
}

func shownMarks(l []api.Mark) string {
	s := ""
	for _, m := range l {
		s += "^" + m.Type + shownAttrs(m.Attrs)
	}
	return s
}

func shownAttrs(l []api.Attr) string {
	if len(l) == 0 {
		return ""
	}
	var all []string
	for _, a := range l {
		all = append(all, a.Name+"="+strconv.Quote(a.Value))
	}
	return "[" + strings.Join(all, ",") + "]"
}

// told is all of n, as a node is told here.
func told(n api.Node) string {
	s := n.Type + shownAttrs(n.Attrs) + shownMarks(n.Marks)
	if n.Text != "" {
		s += strconv.Quote(n.Text)
	}
	if len(n.Kids) == 0 {
		return s
	}
	var all []string
	for _, kid := range n.Kids[:min(len(n.Kids), 50)] {
		all = append(all, told(kid))
	}
	return s + "(" + strings.Join(all, " ") + ")"
}

// What follows goes by the words of the document, one thing behind the other.

func sameMark(a, b api.Mark) bool {
	return a.Type == b.Type && slices.Equal(a.Attrs, b.Attrs)
}

// alike tells whether both are the same, by their fields.
func alike(a, b api.Node) bool {
	return a.Type == b.Type && a.Text == b.Text && slices.Equal(a.Attrs, b.Attrs) && slices.EqualFunc(a.Marks, b.Marks, sameMark) && slices.EqualFunc(a.Kids, b.Kids, alike)
}

func sameToken(a, b api.Token) bool {
	return a.Kind == b.Kind && a.Type == b.Type && a.Char == b.Char && slices.Equal(a.Attrs, b.Attrs) && slices.EqualFunc(a.Marks, b.Marks, sameMark)
}

// equal tells whether both rows are the same, by the tokens' fields.
func equal(a, b []api.Token) bool {
	return slices.EqualFunc(a, b, sameToken)
}

func typeOf(s api.Schema, name string) (api.NodeType, bool) {
	for _, t := range s.Types {
		if t.Name == name {
			return t, true
		}
	}
	return api.NodeType{}, false
}

// leaf tells whether a type of s, not text, is one.
func leaf(t api.NodeType) bool {
	return strings.Trim(t.Content, " ") == ""
}

// mayByWords tells whether t may be, by s, which may be; set tells whether its Marks are one.
func mayByWords(s api.Schema, t api.Token, set bool) bool {
	typed := func(wantLeaf bool) bool {
		typ, there := typeOf(s, t.Type)
		return there && t.Type != "text" && t.Type != s.Types[0].Name && leaf(typ) == wantLeaf && attr.Fits(typ.Attrs, t.Attrs)
	}
	plain := t.Type == "" && len(t.Attrs) == 0
	switch t.Kind {
	case 1:
		return typed(false) && set && t.Char == 0
	case 2:
		return plain && len(t.Marks) == 0 && t.Char == 0
	case 3:
		return typed(true) && set && t.Char == 0
	case 4:
		return plain && set && t.Char >= 32 && t.Char <= 126
	}
	return false
}

func checkByWords(s api.Schema, l []api.Token) api.Errno {
	if e := schema.Check(s); e != ok {
		return e
	}
	if len(l) > 65536 {
		return long
	}
	sets := map[string]bool{}
	for _, t := range l {
		marks := shownMarks(t.Marks)
		if _, known := sets[marks]; !known {
			sets[marks] = mark.Check(s, t.Marks) == ok
		}
		if !mayByWords(s, t, sets[marks]) {
			return arg
		}
	}
	return ok
}

func rowByWords(s api.Schema, n api.Node) []api.Token {
	var l []api.Token
	for _, kid := range n.Kids {
		typ, _ := typeOf(s, kid.Type)
		begin := api.Token{Type: kid.Type, Attrs: kid.Attrs, Marks: kid.Marks}
		switch {
		case kid.Type == "text":
			for i := range len(kid.Text) {
				l = append(l, api.Token{Kind: 4, Marks: kid.Marks, Char: kid.Text[i]})
			}
		case leaf(typ):
			begin.Kind = 3
			l = append(l, begin)
		default:
			begin.Kind = 1
			l = append(append(append(l, begin), rowByWords(s, kid)...), api.Token{Kind: 2})
		}
	}
	return l
}

func ofByWords(s api.Schema, n api.Node) ([]api.Token, api.Errno) {
	if e := node.Document(s, n); e != ok {
		return nil, e
	}
	return rowByWords(s, n), ok
}

// standing is what stands in l up to a TokClose that ends no TokOpen of it, a byte a text, and what is left from that on; false, where a TokOpen is not ended.
func standing(l []api.Token) ([]api.Node, []api.Token, bool) {
	var kids []api.Node
	for len(l) > 0 && l[0].Kind != 2 {
		t := l[0]
		n := api.Node{Type: t.Type, Attrs: t.Attrs, Marks: t.Marks}
		l = l[1:]
		switch t.Kind {
		case 4:
			n.Type, n.Text = "text", string(rune(t.Char))
		case 1:
			within, rest, even := standing(l)
			if !even || len(rest) == 0 {
				return nil, nil, false
			}
			n.Kids, l = within, rest[1:]
		}
		kids = append(kids, n)
	}
	return kids, l, true
}

func makeByWords(s api.Schema, l []api.Token) (api.Node, api.Errno) {
	if e := checkByWords(s, l); e != ok {
		return api.Node{}, e
	}
	kids, rest, even := standing(l)
	if !even || len(rest) > 0 {
		return api.Node{}, shape
	}
	n := api.Node{Type: s.Types[0].Name, Kids: node.Form(kids)}
	if e := node.Document(s, n); e != ok {
		return api.Node{}, e
	}
	return n, ok
}

// leftByWords takes out each TokOpen with the TokClose that ends it, one by one.
func leftByWords(l []api.Token) (closes, opens int) {
	l = slices.DeleteFunc(slices.Clone(l), func(t api.Token) bool { return t.Kind != 1 && t.Kind != 2 })
	for i := 0; i+1 < len(l); {
		if l[i].Kind == 1 && l[i+1].Kind == 2 {
			l = slices.Delete(l, i, i+2)
			i = 0
			continue
		}
		i++
	}
	for _, t := range l {
		if t.Kind == 1 {
			opens++
		}
	}
	return len(l) - opens, opens
}

func depthByWords(l []api.Token, place int) int {
	if place < 0 || place > len(l) {
		return 0
	}
	var kinds [6]int
	for _, t := range l[:place] {
		kinds[t.Kind]++
	}
	return kinds[1] - kinds[2]
}

func alikeByWords(a, b []api.Token) (ahead, behind int) {
	for n := range min(len(a), len(b)) + 1 {
		if equal(a[:n], b[:n]) {
			ahead = n
		}
	}
	a, b = a[ahead:], b[ahead:]
	for n := range min(len(a), len(b)) + 1 {
		if equal(a[len(a)-n:], b[len(b)-n:]) {
			behind = n
		}
	}
	return ahead, behind
}

func cutByWords(l []api.Token, from, to int) ([]api.Token, api.Errno) {
	var all []api.Token
	for i, t := range l {
		if i >= from && i < to {
			all = append(all, t)
		}
	}
	if from < 0 || to < 0 || from > len(l) || to > len(l) || from > to {
		return nil, place
	}
	return all, ok
}

func putByWords(l []api.Token, from, to int, mid []api.Token) ([]api.Token, api.Errno) {
	if _, e := cutByWords(l, from, to); e != ok {
		return nil, e
	}
	ahead, _ := cutByWords(l, 0, from)
	behind, _ := cutByWords(l, to, len(l))
	all := slices.Concat(ahead, mid, behind)
	if len(all) > 65536 {
		return nil, long
	}
	return all, ok
}
