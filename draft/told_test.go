package draft_test

import (
	"slices"
	"strconv"
	"strings"

	"copydesk/api"
)

// pages is the schema of the pages, in memory of its own.
func pages() api.Schema {
	return api.Schema{Types: []api.NodeType{
		{Name: "doc", Content: "block+"},
		{Name: "p", Content: "inline*", Groups: list("block"), Marks: list("code em")},
		{Name: "h", Content: "text*", Groups: list("block"), Attrs: []api.AttrSpec{{Name: "level", Default: "1"}}, Marks: list("em")},
		{Name: "li", Content: "p block*", Groups: list("block")},
		{Name: "hr", Groups: list("block")},
		{Name: "br", Inline: true, Groups: list("inline")},
		{Name: "text", Inline: true, Groups: list("inline")},
	}, Marks: []api.MarkType{{Name: "em"}, {Name: "code", Excludes: list("em")}}}
}

// books is a schema with what the pages' has not: a document without Kids, attributes that must be told, marks on blocks and on leaves,
// marks with attributes, a leaf whose Content are blanks, blocks within what is Inline, a top that is not the first by name.
func books() api.Schema {
	return api.Schema{Types: []api.NodeType{
		{Name: "top", Content: "sec*", Marks: list("note")},
		{Name: "sec", Content: "flow*", Marks: list("note sub")},
		{Name: "par", Content: "(text | img | foot)*", Groups: list("flow"), Marks: list("a b sub sup")},
		{Name: "fig", Content: "par?", Groups: list("flow"), Attrs: specs("alt src!")},
		{Name: "hr", Content: "  ", Groups: list("flow")},
		{Name: "text", Inline: true},
		{Name: "img", Inline: true, Attrs: specs("src!")},
		{Name: "foot", Content: "par{1,2}", Inline: true},
	}, Marks: []api.MarkType{
		{Name: "sub", Excludes: list("sup")}, {Name: "sup", Excludes: list("sub")}, {Name: "a", Attrs: specs("href! title")},
		{Name: "b"}, {Name: "note", Attrs: specs("by=x"), Excludes: list("sub")},
	}}
}

// letters is a schema whose top holds inline, as does what is Inline itself.
func letters() api.Schema {
	return api.Schema{Types: []api.NodeType{
		{Name: "doc", Content: "(dot | note | text)*", Marks: list("em")},
		{Name: "note", Content: "(dot | note | text)*", Inline: true, Attrs: specs("by")},
		{Name: "dot", Inline: true, Attrs: specs("a b=1")},
		{Name: "text", Inline: true},
	}, Marks: []api.MarkType{{Name: "em"}}}
}

// specs are told each as "name=default", those that are Must as "name!".
func specs(s string) []api.AttrSpec {
	var l []api.AttrSpec
	for _, one := range list(s) {
		name, value, _ := strings.Cut(one, "=")
		plain := strings.TrimSuffix(name, "!")
		l = append(l, api.AttrSpec{Name: plain, Default: value, Must: plain != name})
	}
	return l
}

func list(s string) []string {
	return strings.Fields(s)
}

// A node is told as its type, and behind it, in any order: [its attributes], ^each mark[with attributes], 'its Text', (its Kids).
// A text needs no type: doc(h[level=1]('a' 'b'^em)).

// tree is the node that s tells.
func tree(s string) api.Node {
	l, rest := trees(s)
	if len(l) != 1 || rest != "" {
		panic(s)
	}
	return l[0]
}

func trees(s string) ([]api.Node, string) {
	var l []api.Node
	for s = strings.TrimLeft(s, " "); s != "" && s[0] != ')'; s = strings.TrimLeft(s, " ") {
		var n api.Node
		n, s = one(s)
		l = append(l, n)
	}
	return l, s
}

func one(s string) (api.Node, string) {
	var n api.Node
	n.Type, s = name(s)
	if n.Type == "" && s[0] == '\'' {
		n.Type = "text"
	}
	for s != "" {
		switch s[0] {
		case '[':
			n.Attrs, s = attrs(s)
		case '^':
			n.Marks, s = marks(s)
		case '\'':
			n.Text, s, _ = strings.Cut(s[1:], "'")
		case '(':
			n.Kids, s = trees(s[1:])
			s = s[1:]
		case ' ', ')':
			return n, s
		default:
			panic(s)
		}
	}
	return n, s
}

func name(s string) (string, string) {
	i := strings.IndexAny(s+" ", " ()[]^'")
	return s[:i], s[i:]
}

func attrs(s string) ([]api.Attr, string) {
	all, rest, _ := strings.Cut(s[1:], "]")
	var l []api.Attr
	for _, one := range strings.Split(all, ",") {
		name, value, _ := strings.Cut(one, "=")
		l = append(l, api.Attr{Name: name, Value: value})
	}
	return l, rest
}

func marks(s string) ([]api.Mark, string) {
	var l []api.Mark
	for strings.HasPrefix(s, "^") {
		var m api.Mark
		if m.Type, s = name(s[1:]); strings.HasPrefix(s, "[") {
			m.Attrs, s = attrs(s)
		}
		l = append(l, m)
	}
	return l, s
}

// A row is told as its tokens, blanks between them: a TokOpen as (type, a TokLeaf as /type, with [attributes] and ^marks behind,
// a TokClose as ), TokChars as 'bytes' with ^marks behind: (p 'ab'^em ) /hr.

// tokens are those that s tells.
func tokens(s string) []api.Token {
	var l []api.Token
	for s = strings.TrimLeft(s, " "); s != ""; s = strings.TrimLeft(s, " ") {
		var t api.Token
		words, head := "", s[0]
		switch head {
		case '(', '/':
			t.Kind = api.TokOpen
			if head == '/' {
				t.Kind = api.TokLeaf
			}
			if t.Type, s = name(s[1:]); strings.HasPrefix(s, "[") {
				t.Attrs, s = attrs(s)
			}
		case ')':
			t.Kind, s = api.TokClose, s[1:]
		case '\'':
			t.Kind = api.TokChar
			words, s, _ = strings.Cut(s[1:], "'")
		default:
			panic(s)
		}
		t.Marks, s = marks(s)
		if head != '\'' {
			l = append(l, t)
		}
		for _, c := range []byte(words) {
			t.Char = c
			l = append(l, cloned(t))
		}
	}
	return l
}

// cloned is t in memory of its own.
func cloned(t api.Token) api.Token {
	t.Attrs, t.Marks = slices.Clone(t.Attrs), slices.Clone(t.Marks)
	for i := range t.Marks {
		t.Marks[i].Attrs = slices.Clone(t.Marks[i].Attrs)
	}
	return t
}

func clones(l []api.Token) []api.Token {
	l = slices.Clone(l)
	for i, t := range l {
		l[i] = cloned(t)
	}
	return l
}

// times is l so often.
func times(l []api.Token, n int) []api.Token {
	return clones(slices.Repeat(l, n))
}

// shown is all of l, as a row is told here, as far as it can be.
func shown(l []api.Token) string {
	if len(l) > 50 {
		return shown(l[:25]) + " .. " + shown(l[len(l)-25:])
	}
	var all []string
	for _, t := range l {
		s := strconv.Itoa(t.Kind) + ":"
		if t.Kind >= 1 && t.Kind <= 4 {
			s = list("( ) / '")[t.Kind-1]
		}
		s += t.Type + shownAttrs(t.Attrs)
		if t.Char != 0 {
			s += strconv.QuoteToASCII(string(rune(t.Char)))
		}
		all = append(all, s+shownMarks(t.Marks))
	}
	return strings.Join(all, " ")
}

func shownMarks(l []api.Mark) string {
	s := ""
	for _, m := range l {
		s += "^" + m.Type + shownAttrs(m.Attrs)
	}
	return s
}

func shownAttrs(l []api.Attr) string {
	if len(l) == 0 {
		return ""
	}
	var all []string
	for _, a := range l {
		all = append(all, a.Name+"="+strconv.Quote(a.Value))
	}
	return "[" + strings.Join(all, ",") + "]"
}

// told is all of n, as a node is told here.
func told(n api.Node) string {
	s := n.Type + shownAttrs(n.Attrs) + shownMarks(n.Marks)
	if n.Text != "" {
		s += strconv.Quote(n.Text)
	}
	if len(n.Kids) == 0 {
		return s
	}
	var all []string
	for _, kid := range n.Kids[:min(len(n.Kids), 50)] {
		all = append(all, told(kid))
	}
	return s + "(" + strings.Join(all, " ") + ")"
}

// A step is told as its kind and what it has: "put From To Mid", "wrap From Gap End To Insert Mid", "mark From To Mark", "bare From To Mark",
// "attr From Name=Value", "swap From To Mid".

// change is the step that s tells.
func change(s string) api.Step {
	kind, rest, _ := strings.Cut(s, " ")
	var t api.Step
	number := func(n *int) {
		one, more, _ := strings.Cut(rest, " ")
		if i, e := strconv.Atoi(one); e == nil {
			*n, rest = i, more
			return
		}
		panic(s)
	}
	number(&t.From)
	switch t.Kind = slices.Index(list("none put wrap mark bare attr swap"), kind); kind {
	case "put", "swap":
		number(&t.To)
		t.Mid = tokens(rest)
	case "wrap":
		number(&t.Gap)
		number(&t.End)
		number(&t.To)
		number(&t.Insert)
		t.Mid = tokens(rest)
	case "mark", "bare":
		number(&t.To)
		l, _ := marks("^" + rest)
		t.Mark = l[0]
	case "attr":
		t.Name, t.Value, _ = strings.Cut(rest, "=")
	default:
		panic(s)
	}
	return t
}

// shownStep is all of t.
func shownStep(t api.Step) string {
	s := "kind " + strconv.Itoa(t.Kind)
	for i, n := range []int{t.From, t.Gap, t.End, t.To, t.Insert} {
		if i == 0 || i == 3 || n != 0 {
			s += " " + list("from gap end to insert")[i] + " " + strconv.Itoa(n)
		}
	}
	if len(t.Mid) > 0 {
		s += " " + shown(t.Mid)
	}
	if t.Mark.Type != "" || len(t.Mark.Attrs) > 0 {
		s += " " + shownMarks([]api.Mark{t.Mark})
	}
	if t.Name != "" || t.Value != "" {
		s += " " + t.Name + "=" + strconv.Quote(t.Value)
	}
	return s
}

// A trail is told as its steps, with " ; " between.

// many are the steps that s tells.
func many(s string) []api.Step {
	var l []api.Step
	for _, one := range strings.Split(s, " ; ") {
		if one != "" {
			l = append(l, change(one))
		}
	}
	return l
}

// repeated is the step that s tells, so often.
func repeated(s string, n int) []api.Step {
	var l []api.Step
	for range n {
		l = append(l, change(s))
	}
	return l
}

// shownSteps is all of l.
func shownSteps(l []api.Step) string {
	var all []string
	for _, t := range l[:min(len(l), 20)] {
		all = append(all, shownStep(t))
	}
	return strconv.Itoa(len(l)) + " steps: " + strings.Join(all, "; ")
}

// numbers are those that s tells.
func numbers(s string) []int {
	var l []int
	for _, one := range list(s) {
		n, e := strconv.Atoi(one)
		if e != nil {
			panic(s)
		}
		l = append(l, n)
	}
	return l
}

// A confirmed step is told as its client, ".", its serial number, and the step; lists of these with " ; " between.

// logged are the confirmed steps that s tells.
func logged(s string) []api.Logged {
	var l []api.Logged
	for _, one := range strings.Split(s, " ; ") {
		if one == "" {
			continue
		}
		head, rest, _ := strings.Cut(one, " ")
		client, serial, _ := strings.Cut(head, ".")
		l = append(l, api.Logged{Client: whole64(client), Serial: whole64(serial), Step: change(rest)})
	}
	return l
}

func whole64(s string) uint64 {
	n, e := strconv.ParseUint(s, 10, 64)
	if e != nil {
		panic(s)
	}
	return n
}

// shownLogged is all of l.
func shownLogged(l []api.Logged) string {
	var all []string
	for _, c := range l[:min(len(l), 20)] {
		all = append(all, strconv.FormatUint(c.Client, 10)+"."+strconv.FormatUint(c.Serial, 10)+" "+shownStep(c.Step))
	}
	return strconv.Itoa(len(l)) + " logged: " + strings.Join(all, "; ")
}
