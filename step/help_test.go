package step_test

import (
	"reflect"
	"slices"
	"strconv"
	"strings"
	"testing"

	"copydesk/api"
	"copydesk/attr"
	"copydesk/maps"
	"copydesk/node"
	"copydesk/row"
	"copydesk/schema"
	"copydesk/step"
)

const (
	ok    = api.OK
	arg   = api.ErrArg
	long  = api.ErrLong
	none  = api.ErrNone
	place = api.ErrPlace
	shape = api.ErrShape
)

var name17 = strings.Repeat("n", 17)

// pages is the schema of the pages, in memory of its own.
func pages() api.Schema {
	return api.Schema{Types: []api.NodeType{
		{Name: "doc", Content: "block+"},
		{Name: "p", Content: "inline*", Groups: list("block"), Marks: list("code em")},
		{Name: "h", Content: "text*", Groups: list("block"), Attrs: []api.AttrSpec{{Name: "level", Default: "1"}}, Marks: list("em")},
		{Name: "li", Content: "p block*", Groups: list("block")},
		{Name: "hr", Groups: list("block")},
		{Name: "br", Inline: true, Groups: list("inline")},
		{Name: "text", Inline: true, Groups: list("inline")},
	}, Marks: []api.MarkType{{Name: "em"}, {Name: "code", Excludes: list("em")}}}
}

// books is a schema with what the pages' has not: a document without Kids, attributes that must be told, marks on blocks and on leaves,
// marks with attributes, a leaf whose Content are blanks, blocks within what is Inline, a top that is not the first by name.
func books() api.Schema {
	return api.Schema{Types: []api.NodeType{
		{Name: "top", Content: "sec*", Marks: list("note")},
		{Name: "sec", Content: "flow*", Marks: list("note sub")},
		{Name: "par", Content: "(text | img | foot)*", Groups: list("flow"), Marks: list("a b sub sup")},
		{Name: "fig", Content: "par?", Groups: list("flow"), Attrs: specs("alt src!")},
		{Name: "hr", Content: "  ", Groups: list("flow")},
		{Name: "text", Inline: true},
		{Name: "img", Inline: true, Attrs: specs("src!")},
		{Name: "foot", Content: "par{1,2}", Inline: true},
	}, Marks: []api.MarkType{
		{Name: "sub", Excludes: list("sup")}, {Name: "sup", Excludes: list("sub")}, {Name: "a", Attrs: specs("href! title")},
		{Name: "b"}, {Name: "note", Attrs: specs("by=x"), Excludes: list("sub")},
	}}
}

// letters is a schema whose top holds inline, as does what is Inline itself.
func letters() api.Schema {
	return api.Schema{Types: []api.NodeType{
		{Name: "doc", Content: "(dot | note | text)*", Marks: list("em")},
		{Name: "note", Content: "(dot | note | text)*", Inline: true, Attrs: specs("by")},
		{Name: "dot", Inline: true, Attrs: specs("a b=1")},
		{Name: "text", Inline: true},
	}, Marks: []api.MarkType{{Name: "em"}}}
}

// small is a schema of types, told each as "name: Content ; attributes", and of text.
func small(types ...string) api.Schema {
	var s api.Schema
	for _, one := range types {
		one, attrs, _ := strings.Cut(one, ";")
		name, content, _ := strings.Cut(one, ":")
		s.Types = append(s.Types, api.NodeType{Name: name, Content: content, Attrs: specs(attrs)})
	}
	s.Types = append(s.Types, api.NodeType{Name: "text", Inline: true})
	return s
}

// specs are told each as "name=default", those that are Must as "name!".
func specs(s string) []api.AttrSpec {
	var l []api.AttrSpec
	for _, one := range list(s) {
		name, value, _ := strings.Cut(one, "=")
		plain := strings.TrimSuffix(name, "!")
		l = append(l, api.AttrSpec{Name: plain, Default: value, Must: plain != name})
	}
	return l
}

func list(s string) []string {
	return strings.Fields(s)
}

// may fails unless s may be.
func may(t testing.TB, s api.Schema) api.Schema {
	t.Helper()
	if e := schema.Check(s); e != ok {
		t.Fatalf("%v: error %d", s, e)
	}
	return s
}

// A node is told as its type, and behind it, in any order: [its attributes], ^each mark[with attributes], 'its Text', (its Kids).
// A text needs no type: doc(h[level=1]('a' 'b'^em)).

// tree is the node that s tells.
func tree(s string) api.Node {
	l, rest := trees(s)
	if len(l) != 1 || rest != "" {
		panic(s)
	}
	return l[0]
}

func trees(s string) ([]api.Node, string) {
	var l []api.Node
	for s = strings.TrimLeft(s, " "); s != "" && s[0] != ')'; s = strings.TrimLeft(s, " ") {
		var n api.Node
		n, s = one(s)
		l = append(l, n)
	}
	return l, s
}

func one(s string) (api.Node, string) {
	var n api.Node
	n.Type, s = name(s)
	if n.Type == "" && s[0] == '\'' {
		n.Type = "text"
	}
	for s != "" {
		switch s[0] {
		case '[':
			n.Attrs, s = attrs(s)
		case '^':
			n.Marks, s = marks(s)
		case '\'':
			n.Text, s, _ = strings.Cut(s[1:], "'")
		case '(':
			n.Kids, s = trees(s[1:])
			s = s[1:]
		case ' ', ')':
			return n, s
		default:
			panic(s)
		}
	}
	return n, s
}

func name(s string) (string, string) {
	i := strings.IndexAny(s+" ", " ()[]^'")
	return s[:i], s[i:]
}

func attrs(s string) ([]api.Attr, string) {
	all, rest, _ := strings.Cut(s[1:], "]")
	var l []api.Attr
	for _, one := range strings.Split(all, ",") {
		name, value, _ := strings.Cut(one, "=")
		l = append(l, api.Attr{Name: name, Value: value})
	}
	return l, rest
}

func marks(s string) ([]api.Mark, string) {
	var l []api.Mark
	for strings.HasPrefix(s, "^") {
		var m api.Mark
		if m.Type, s = name(s[1:]); strings.HasPrefix(s, "[") {
			m.Attrs, s = attrs(s)
		}
		l = append(l, m)
	}
	return l, s
}

// A row is told as its tokens, blanks between them: a TokOpen as (type, a TokLeaf as /type, with [attributes] and ^marks behind,
// a TokClose as ), TokChars as 'bytes' with ^marks behind: (p 'ab'^em ) /hr.

// tokens are those that s tells.
func tokens(s string) []api.Token {
	var l []api.Token
	for s = strings.TrimLeft(s, " "); s != ""; s = strings.TrimLeft(s, " ") {
		var t api.Token
		words, head := "", s[0]
		switch head {
		case '(', '/':
			t.Kind = api.TokOpen
			if head == '/' {
				t.Kind = api.TokLeaf
			}
			if t.Type, s = name(s[1:]); strings.HasPrefix(s, "[") {
				t.Attrs, s = attrs(s)
			}
		case ')':
			t.Kind, s = api.TokClose, s[1:]
		case '\'':
			t.Kind = api.TokChar
			words, s, _ = strings.Cut(s[1:], "'")
		default:
			panic(s)
		}
		t.Marks, s = marks(s)
		if head != '\'' {
			l = append(l, t)
		}
		for _, c := range []byte(words) {
			t.Char = c
			l = append(l, cloned(t))
		}
	}
	return l
}

// token is the one that s tells.
func token(s string) api.Token {
	l := tokens(s)
	if len(l) != 1 {
		panic(s)
	}
	return l[0]
}

// cloned is t in memory of its own.
func cloned(t api.Token) api.Token {
	t.Attrs, t.Marks = slices.Clone(t.Attrs), slices.Clone(t.Marks)
	for i := range t.Marks {
		t.Marks[i].Attrs = slices.Clone(t.Marks[i].Attrs)
	}
	return t
}

func clones(l []api.Token) []api.Token {
	l = slices.Clone(l)
	for i, t := range l {
		l[i] = cloned(t)
	}
	return l
}

// then are rows, one behind the other, in memory of their own.
func then(rows ...[]api.Token) []api.Token {
	return clones(slices.Concat(rows...))
}

// times is l so often.
func times(l []api.Token, n int) []api.Token {
	return clones(slices.Repeat(l, n))
}

// shown is all of l, as a row is told here, as far as it can be.
func shown(l []api.Token) string {
	if len(l) > 50 {
		return shown(l[:25]) + " .. " + shown(l[len(l)-25:])
	}
	var all []string
	for _, t := range l {
		s := strconv.Itoa(t.Kind) + ":"
		if t.Kind >= 1 && t.Kind <= 4 {
			s = list("( ) / '")[t.Kind-1]
		}
		s += t.Type + shownAttrs(t.Attrs)
		if t.Char != 0 {
			s += strconv.QuoteToASCII(string(rune(t.Char)))
		}
		all = append(all, s+shownMarks(t.Marks))
	}
	return strings.Join(all, " ")
}

func shownMarks(l []api.Mark) string {
	s := ""
	for _, m := range l {
		s += "^" + m.Type + shownAttrs(m.Attrs)
	}
	return s
}

func shownAttrs(l []api.Attr) string {
	if len(l) == 0 {
		return ""
	}
	var all []string
	for _, a := range l {
		all = append(all, a.Name+"="+strconv.Quote(a.Value))
	}
	return "[" + strings.Join(all, ",") + "]"
}

// told is all of n, as a node is told here.
func told(n api.Node) string {
	s := n.Type + shownAttrs(n.Attrs) + shownMarks(n.Marks)
	if n.Text != "" {
		s += strconv.Quote(n.Text)
	}
	if len(n.Kids) == 0 {
		return s
	}
	var all []string
	for _, kid := range n.Kids[:min(len(n.Kids), 50)] {
		all = append(all, told(kid))
	}
	return s + "(" + strings.Join(all, " ") + ")"
}

// doc is a document of the pages' schema.
func doc(kids ...api.Node) api.Node {
	return api.Node{Type: "doc", Kids: kids}
}

// nested is p in so many li, each of them behind another p.
func nested(times int) api.Node {
	n := tree("p('ab')")
	for range times {
		n = api.Node{Type: "li", Kids: []api.Node{{Type: "p"}, n}}
	}
	return n
}

// A step is told as its kind and what it has: "put From To Mid", "wrap From Gap End To Insert Mid", "mark From To Mark", "bare From To Mark",
// "attr From Name=Value", "swap From To Mid".

// change is the step that s tells.
func change(s string) api.Step {
	kind, rest, _ := strings.Cut(s, " ")
	var t api.Step
	number := func(n *int) {
		one, more, _ := strings.Cut(rest, " ")
		if i, e := strconv.Atoi(one); e == nil {
			*n, rest = i, more
			return
		}
		panic(s)
	}
	number(&t.From)
	switch t.Kind = slices.Index(list("none put wrap mark bare attr swap"), kind); kind {
	case "put", "swap":
		number(&t.To)
		t.Mid = tokens(rest)
	case "wrap":
		number(&t.Gap)
		number(&t.End)
		number(&t.To)
		number(&t.Insert)
		t.Mid = tokens(rest)
	case "mark", "bare":
		number(&t.To)
		l, _ := marks("^" + rest)
		t.Mark = l[0]
	case "attr":
		t.Name, t.Value, _ = strings.Cut(rest, "=")
	default:
		panic(s)
	}
	return t
}

// shownStep is all of t.
func shownStep(t api.Step) string {
	s := "kind " + strconv.Itoa(t.Kind)
	for i, n := range []int{t.From, t.Gap, t.End, t.To, t.Insert} {
		if i == 0 || i == 3 || n != 0 {
			s += " " + list("from gap end to insert")[i] + " " + strconv.Itoa(n)
		}
	}
	if len(t.Mid) > 0 {
		s += " " + shown(t.Mid)
	}
	if t.Mark.Type != "" || len(t.Mark.Attrs) > 0 {
		s += " " + shownMarks([]api.Mark{t.Mark})
	}
	if t.Name != "" || t.Value != "" {
		s += " " + t.Name + "=" + strconv.Quote(t.Value)
	}
	return s
}

// What follows goes by the words of the document, one thing behind the other.

func sameMark(a, b api.Mark) bool {
	return a.Type == b.Type && slices.Equal(a.Attrs, b.Attrs)
}

// alike tells whether both are the same, by their fields.
func alike(a, b api.Node) bool {
	return a.Type == b.Type && a.Text == b.Text && slices.Equal(a.Attrs, b.Attrs) && slices.EqualFunc(a.Marks, b.Marks, sameMark) && slices.EqualFunc(a.Kids, b.Kids, alike)
}

func sameToken(a, b api.Token) bool {
	return a.Kind == b.Kind && a.Type == b.Type && a.Char == b.Char && slices.Equal(a.Attrs, b.Attrs) && slices.EqualFunc(a.Marks, b.Marks, sameMark)
}

// equal tells whether both rows are the same, by the tokens' fields.
func equal(a, b []api.Token) bool {
	return slices.EqualFunc(a, b, sameToken)
}

// equalSteps tells whether both are the same, by their fields.
func equalSteps(a, b api.Step) bool {
	if !equal(a.Mid, b.Mid) || !sameMark(a.Mark, b.Mark) {
		return false
	}
	a.Mid, b.Mid, a.Mark, b.Mark = nil, nil, api.Mark{}, api.Mark{}
	return reflect.DeepEqual(a, b)
}

func typeOf(s api.Schema, name string) (api.NodeType, bool) {
	for _, t := range s.Types {
		if t.Name == name {
			return t, true
		}
	}
	return api.NodeType{}, false
}

// has are the fields of a step by its kind, Kind aside; all of them, of a kind that is none.
func has(kind int) []string {
	switch kind {
	case 1, 6:
		return list("From To Mid")
	case 2:
		return list("From To Gap End Insert Mid")
	case 3, 4:
		return list("From To Mark")
	case 5:
		return list("From Name Value")
	}
	return list("From To Gap End Insert Mid Mark Name Value")
}

// fieldsOf are the names of all fields of t that are not zero; an empty list is.
func fieldsOf(t api.Step) []string {
	if len(t.Mid) == 0 {
		t.Mid = nil
	}
	if len(t.Mark.Attrs) == 0 {
		t.Mark.Attrs = nil
	}
	var l []string
	v := reflect.ValueOf(t)
	for i := range v.NumField() {
		if !v.Field(i).IsZero() {
			l = append(l, v.Type().Field(i).Name)
		}
	}
	return l
}

// rising tells whether none of these is above the next one.
func rising(l ...int) bool {
	return slices.IsSorted(l)
}

// mayByWords tells whether t may be, by s, which may be.
func mayByWords(s api.Schema, t api.Step) bool {
	if t.Kind < 1 || t.Kind > 6 || row.Check(s, t.Mid) != ok {
		return false
	}
	for _, field := range fieldsOf(t) {
		if field != "Kind" && !slices.Contains(has(t.Kind), field) {
			return false
		}
	}
	for _, n := range []int{t.From, t.To, t.Gap, t.End, t.Insert} {
		if n < 0 || n > 65536 {
			return false
		}
	}
	switch t.Kind {
	case 1:
		return rising(t.From, t.To)
	case 2:
		return rising(t.From, t.Gap, t.End, t.To) && rising(t.Insert, len(t.Mid))
	case 3, 4:
		return rising(t.From, t.To) && slices.ContainsFunc(s.Marks, func(m api.MarkType) bool { return m.Name == t.Mark.Type && attr.Fits(m.Attrs, t.Mark.Attrs) })
	case 5:
		return attr.Name(t.Name) && attr.Value(t.Value)
	}
	return t.To-t.From == len(t.Mid)
}

func checkByWords(s api.Schema, t api.Step) api.Errno {
	switch e := schema.Check(s); {
	case e != ok:
		return e
	case len(t.Name) > 16 || len(t.Value) > 64 || len(t.Mid) > 65536:
		return long
	case !mayByWords(s, t):
		return arg
	}
	return ok
}

// around is the type of the node that the token of l with the number i stands in.
func around(s api.Schema, l []api.Token, i int) string {
	ended := 0
	for i--; i >= 0; i-- {
		switch {
		case l[i].Kind == 2:
			ended++
		case l[i].Kind == 1 && ended == 0:
			return l[i].Type
		case l[i].Kind == 1:
			ended--
		}
	}
	return s.Types[0].Name
}

// takes tells whether the token of l with the number i is one that a mark can be added to, or taken from.
func takes(s api.Schema, l []api.Token, i int) bool {
	typ, _ := typeOf(s, l[i].Type)
	return l[i].Kind == 4 || l[i].Kind == 3 && typ.Inline
}

// added is the set l with m.
func added(s api.Schema, l []api.Mark, m api.Mark) []api.Mark {
	rank := func(typ string) int {
		return slices.IndexFunc(s.Marks, func(t api.MarkType) bool { return t.Name == typ })
	}
	goes := func(one api.Mark) bool {
		return one.Type == m.Type || slices.Contains(s.Marks[rank(m.Type)].Excludes, one.Type)
	}
	left := slices.DeleteFunc(slices.Clone(l), goes)
	if slices.ContainsFunc(left, func(one api.Mark) bool { return slices.Contains(s.Marks[rank(one.Type)].Excludes, m.Type) }) {
		return l
	}
	left = append(left, m)
	slices.SortFunc(left, func(a, b api.Mark) int { return rank(a.Type) - rank(b.Type) })
	return left
}

// without is l less all that are m.
func without(l []api.Mark, m api.Mark) []api.Mark {
	return slices.DeleteFunc(slices.Clone(l), func(one api.Mark) bool { return sameMark(one, m) })
}

// rowByWords is what t, which may be, makes of the row l.
func rowByWords(s api.Schema, l []api.Token, t api.Step) ([]api.Token, api.Errno) {
	if t.To > len(l) || t.From > len(l) {
		return nil, place
	}
	came := clones(l)
	switch t.Kind {
	case 1:
		came = then(l[:t.From], t.Mid, l[t.To:])
	case 2:
		came = then(l[:t.From], t.Mid[:t.Insert], l[t.Gap:t.End], t.Mid[t.Insert:], l[t.To:])
	case 3, 4:
		for i := t.From; i < t.To; i++ {
			in, _ := typeOf(s, around(s, l, i))
			switch {
			case !takes(s, l, i):
			case t.Kind == 4:
				came[i].Marks = without(l[i].Marks, t.Mark)
			case slices.Contains(in.Marks, t.Mark.Type):
				came[i].Marks = added(s, l[i].Marks, t.Mark)
			}
		}
	case 5:
		if t.From == len(l) || l[t.From].Kind == 2 || l[t.From].Kind == 4 {
			return nil, place
		}
		i := slices.IndexFunc(l[t.From].Attrs, func(a api.Attr) bool { return a.Name == t.Name })
		if i < 0 {
			return nil, none
		}
		came[t.From].Attrs[i].Value = t.Value
	case 6:
		for i, mid := range t.Mid {
			came[t.From+i].Marks = mid.Marks
			if !sameToken(came[t.From+i], mid) {
				return nil, place
			}
		}
	}
	if len(came) > 65536 {
		return nil, long
	}
	return came, ok
}

func doByWords(s api.Schema, n api.Node, t api.Step) (api.Node, api.Errno) {
	if e := node.Document(s, n); e != ok {
		return api.Node{}, e
	}
	if e := checkByWords(s, t); e != ok {
		return api.Node{}, e
	}
	l, _ := row.Of(s, n)
	l, e := rowByWords(s, l, t)
	if e != ok {
		return api.Node{}, e
	}
	return row.Make(s, l)
}

// undoByWords is t undone, by the row ahead of it.
func undoByWords(l []api.Token, t api.Step) api.Step {
	switch t.Kind {
	case 1:
		return api.Step{Kind: 1, From: t.From, To: t.From + len(t.Mid), Mid: l[t.From:t.To]}
	case 2:
		u := api.Step{Kind: 2, From: t.From, Gap: t.From + t.Insert, Insert: t.Gap - t.From, Mid: then(l[t.From:t.Gap], l[t.End:t.To])}
		u.End = u.Gap + len(l[t.Gap:t.End])
		u.To = u.End + len(t.Mid[t.Insert:])
		return u
	case 5:
		for _, a := range l[t.From].Attrs {
			if a.Name == t.Name {
				return api.Step{Kind: 5, From: t.From, Name: t.Name, Value: a.Value}
			}
		}
	}
	return api.Step{Kind: 6, From: t.From, To: t.To, Mid: l[t.From:t.To]}
}

// mapByWords is the map of t, whatever it is.
func mapByWords(t api.Step) []api.Range {
	var l []api.Range
	switch {
	case t.Kind == 1 || t.Kind == 2 && t.Gap == t.End:
		l = []api.Range{{At: t.From, Old: t.To - t.From, New: len(t.Mid)}}
	case t.Kind == 2:
		l = []api.Range{{At: t.From, Old: t.Gap - t.From, New: t.Insert}, {At: t.End, Old: t.To - t.End, New: len(t.Mid) - t.Insert}}
	}
	return slices.DeleteFunc(l, func(r api.Range) bool { return r.Old == 0 && r.New == 0 })
}

// moveByWords is t behind c, whatever they are.
func moveByWords(t api.Step, c api.Chain) (api.Step, bool) {
	if maps.CheckChain(c) != ok {
		return api.Step{}, false
	}
	was := t
	ahead := func(n int) api.Moved { return maps.Through(c, n, -1) }
	behind := func(n int) api.Moved { return maps.Through(c, n, 1) }
	from, to := behind(was.From), ahead(was.To)
	if t.From = from.Place; t.Kind == 5 {
		return orNothing(t, from.Behind)
	}
	if t.To = to.Place; t.To < t.From {
		t.To = t.From
	}
	gone := from.Across && to.Across
	switch t.Kind {
	case 2:
		t.Gap, t.End = ahead(was.Gap).Place, behind(was.End).Place
		gone = gone || t.Gap < t.From || t.End < t.Gap || t.To < t.End
	case 3, 4:
		gone = from.Lost && to.Lost || t.To <= t.From && was.To > was.From
	case 6:
		gone = gone || t.To != t.From+len(t.Mid)
	}
	return orNothing(t, gone)
}

func orNothing(t api.Step, gone bool) (api.Step, bool) {
	if gone {
		return api.Step{}, false
	}
	return t, true
}

func betweenByWords(s api.Schema, a, b api.Node) (api.Step, api.Errno) {
	for _, n := range []api.Node{a, b} {
		if e := node.Document(s, n); e != ok {
			return api.Step{}, e
		}
	}
	x, _ := row.Of(s, a)
	y, _ := row.Of(s, b)
	ahead, behind := 0, 0
	for ahead < min(len(x), len(y)) && sameToken(x[ahead], y[ahead]) {
		ahead++
	}
	for behind < min(len(x), len(y))-ahead && sameToken(x[len(x)-1-behind], y[len(y)-1-behind]) {
		behind++
	}
	return api.Step{Kind: 1, From: ahead, To: len(x) - behind, Mid: y[ahead : len(y)-behind]}, ok
}

// What follows asks the calls, and fails unless they answer that, and nothing beside an error.

func checkIs(t testing.TB, s api.Schema, x api.Step, e api.Errno) {
	t.Helper()
	if got := step.Check(s, x); got != e {
		t.Errorf("Check of %s: error %d, want %d", shownStep(x), got, e)
	}
	if got := checkByWords(s, x); got != e {
		t.Errorf("Check of %s: by the words error %d, want %d", shownStep(x), got, e)
	}
}

// doIs fails unless Do of x comes to want, or to e, Undo goes by that, and all is as the words tell.
func doIs(t testing.TB, s api.Schema, n api.Node, x api.Step, want api.Node, e api.Errno) {
	t.Helper()
	if got, f := step.Do(s, n, x); f != e || !alike(got, want) {
		t.Errorf("Do of %s to %s: %s, error %d, want %s, %d", shownStep(x), told(n), told(got), f, told(want), e)
	}
	if got, f := doByWords(s, n, x); f != e || !alike(got, want) {
		t.Errorf("Do of %s to %s: by the words %s, error %d, want %s, %d", shownStep(x), told(n), told(got), f, told(want), e)
	}
	if e != ok {
		if u, f := step.Undo(s, n, x); f != e || !equalSteps(u, api.Step{}) {
			t.Errorf("Undo of %s by %s: %s, error %d, want %d", shownStep(x), told(n), shownStep(u), f, e)
		}
		return
	}
	l, _ := row.Of(s, n)
	undoIs(t, s, n, x, undoByWords(l, x))
}

// undoIs fails unless x, that can be done to n, is undone by want, and that comes back to n (P11.4).
func undoIs(t testing.TB, s api.Schema, n api.Node, x, want api.Step) {
	t.Helper()
	u, e := step.Undo(s, n, x)
	if e != ok || !equalSteps(u, want) {
		t.Errorf("Undo of %s by %s: %s, error %d, want %s", shownStep(x), told(n), shownStep(u), e, shownStep(want))
	}
	came, _ := step.Do(s, n, x)
	if back, e := step.Do(s, came, u); e != ok || !alike(back, n) {
		t.Errorf("%s to %s, undone: %s, error %d", shownStep(x), told(n), told(back), e)
	}
	ahead, _ := row.Of(s, n)
	behind, _ := row.Of(s, came)
	if m := step.Map(x); len(behind)-len(ahead) != maps.Delta(m) || maps.Check(m) != ok {
		t.Errorf("%s to %s: %d more tokens, the map is %v", shownStep(x), told(n), len(behind)-len(ahead), m)
	}
	mapIs(t, x, mapByWords(x))
	mapIs(t, u, maps.Turn(step.Map(x)))
	moveIs(t, x, api.Chain{}, x, true)
}

func mapIs(t testing.TB, x api.Step, want []api.Range) {
	t.Helper()
	if got := step.Map(x); !slices.Equal(got, want) {
		t.Errorf("Map of %s: %v, want %v", shownStep(x), got, want)
	}
	if got := mapByWords(x); !slices.Equal(got, want) {
		t.Errorf("Map of %s: by the words %v, want %v", shownStep(x), got, want)
	}
}

func moveIs(t testing.TB, x api.Step, c api.Chain, want api.Step, left bool) {
	t.Helper()
	if got, there := step.Move(x, c); there != left || !equalSteps(got, want) {
		t.Errorf("Move of %s through %v: %s, %t, want %s, %t", shownStep(x), c, shownStep(got), there, shownStep(want), left)
	}
	if got, there := moveByWords(x, c); there != left || !equalSteps(got, want) {
		t.Errorf("Move of %s through %v: by the words %s, %t, want %s, %t", shownStep(x), c, shownStep(got), there, shownStep(want), left)
	}
}

// betweenIs fails unless Between answers want, or e, and what it answers comes from a to b (P11.4).
func betweenIs(t testing.TB, s api.Schema, a, b api.Node, want api.Step, e api.Errno) {
	t.Helper()
	x, f := step.Between(s, a, b)
	if f != e || !equalSteps(x, want) {
		t.Errorf("Between of %s and %s: %s, error %d, want %s, %d", told(a), told(b), shownStep(x), f, shownStep(want), e)
	}
	if x, f := betweenByWords(s, a, b); f != e || !equalSteps(x, want) {
		t.Errorf("Between of %s and %s: by the words %s, error %d, want %s, %d", told(a), told(b), shownStep(x), f, shownStep(want), e)
	}
	if got, f := step.Do(s, a, x); e == ok && (f != ok || !alike(got, b)) {
		t.Errorf("Between of %s and %s: %s comes to %s, error %d", told(a), told(b), shownStep(x), told(got), f)
	}
}

// asTold fails unless all that is told of x, done to n, is what the words tell.
func asTold(t testing.TB, s api.Schema, n api.Node, x api.Step) api.Errno {
	t.Helper()
	checkIs(t, s, x, checkByWords(s, x))
	mapIs(t, x, mapByWords(x))
	want, e := doByWords(s, n, x)
	doIs(t, s, n, x, want, e)
	return e
}
