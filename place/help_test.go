package place_test

import (
	"slices"
	"strconv"
	"strings"
	"testing"

	"copydesk/api"
	"copydesk/node"
	"copydesk/place"
	"copydesk/schema"
)

const (
	ok    = api.OK
	arg   = api.ErrArg
	long  = api.ErrLong
	none  = api.ErrPlace
	shape = api.ErrShape
)

var name17 = strings.Repeat("n", 17)

// pages is the schema of the pages, in memory of its own.
func pages() api.Schema {
	return api.Schema{Types: []api.NodeType{
		{Name: "doc", Content: "block+"},
		{Name: "p", Content: "inline*", Groups: list("block"), Marks: list("code em")},
		{Name: "h", Content: "text*", Groups: list("block"), Attrs: []api.AttrSpec{{Name: "level", Default: "1"}}, Marks: list("em")},
		{Name: "li", Content: "p block*", Groups: list("block")},
		{Name: "hr", Groups: list("block")},
		{Name: "br", Inline: true, Groups: list("inline")},
		{Name: "text", Inline: true, Groups: list("inline")},
	}, Marks: []api.MarkType{{Name: "em"}, {Name: "code", Excludes: list("em")}}}
}

// books is a schema with what the pages' has not: a document without Kids, attributes that must be told, marks on blocks and on leaves,
// marks with attributes, a leaf whose Content are blanks, blocks within what is Inline, a top that is not the first by name.
func books() api.Schema {
	return api.Schema{Types: []api.NodeType{
		{Name: "top", Content: "sec*", Marks: list("note")},
		{Name: "sec", Content: "flow*", Marks: list("note sub")},
		{Name: "par", Content: "(text | img | foot)*", Groups: list("flow"), Marks: list("a b sub sup")},
		{Name: "fig", Content: "par?", Groups: list("flow"), Attrs: specs("alt src!")},
		{Name: "hr", Content: "  ", Groups: list("flow")},
		{Name: "text", Inline: true},
		{Name: "img", Inline: true, Attrs: specs("src!")},
		{Name: "foot", Content: "par{1,2}", Inline: true},
	}, Marks: []api.MarkType{
		{Name: "sub", Excludes: list("sup")}, {Name: "sup", Excludes: list("sub")}, {Name: "a", Attrs: specs("href! title")},
		{Name: "b"}, {Name: "note", Attrs: specs("by=x"), Excludes: list("sub")},
	}}
}

// letters is a schema whose top holds inline, as does what is Inline itself.
func letters() api.Schema {
	return api.Schema{Types: []api.NodeType{
		{Name: "doc", Content: "(dot | note | text)*", Marks: list("em")},
		{Name: "note", Content: "(dot | note | text)*", Inline: true, Marks: list("em")},
		{Name: "dot", Inline: true},
		{Name: "text", Inline: true},
	}, Marks: []api.MarkType{{Name: "em"}}}
}

// small is a schema of types, told each as "name: Content ; attributes", and of text.
func small(types ...string) api.Schema {
	var s api.Schema
	for _, one := range types {
		one, attrs, _ := strings.Cut(one, ";")
		name, content, _ := strings.Cut(one, ":")
		s.Types = append(s.Types, api.NodeType{Name: name, Content: content, Attrs: specs(attrs)})
	}
	s.Types = append(s.Types, api.NodeType{Name: "text", Inline: true})
	return s
}

// specs are told each as "name=default", those that are Must as "name!".
func specs(s string) []api.AttrSpec {
	var l []api.AttrSpec
	for _, one := range list(s) {
		name, value, _ := strings.Cut(one, "=")
		plain := strings.TrimSuffix(name, "!")
		l = append(l, api.AttrSpec{Name: plain, Default: value, Must: plain != name})
	}
	return l
}

func list(s string) []string {
	return strings.Fields(s)
}

// may fails unless s may be.
func may(t testing.TB, s api.Schema) api.Schema {
	t.Helper()
	if e := schema.Check(s); e != ok {
		t.Fatalf("%v: error %d", s, e)
	}
	return s
}

// A node is told as its type, and behind it, in any order: [its attributes], ^each mark[with attributes], 'its Text', (its Kids).
// A text needs no type: doc(h[level=1]('a' 'b'^em)).

// tree is the node that s tells.
func tree(s string) api.Node {
	l, rest := trees(s)
	if len(l) != 1 || rest != "" {
		panic(s)
	}
	return l[0]
}

func trees(s string) ([]api.Node, string) {
	var l []api.Node
	for s = strings.TrimLeft(s, " "); s != "" && s[0] != ')'; s = strings.TrimLeft(s, " ") {
		var n api.Node
		n, s = one(s)
		l = append(l, n)
	}
	return l, s
}

func one(s string) (api.Node, string) {
	var n api.Node
	n.Type, s = name(s)
	if n.Type == "" && s[0] == '\'' {
		n.Type = "text"
	}
	for s != "" {
		switch s[0] {
		case '[':
			n.Attrs, s = attrs(s)
		case '^':
			n.Marks, s = marks(s)
		case '\'':
			n.Text, s, _ = strings.Cut(s[1:], "'")
		case '(':
			n.Kids, s = trees(s[1:])
			s = s[1:]
		case ' ', ')':
			return n, s
		default:
			panic(s)
		}
	}
	return n, s
}

func name(s string) (string, string) {
	i := strings.IndexAny(s+" ", " ()[]^'")
	return s[:i], s[i:]
}

func attrs(s string) ([]api.Attr, string) {
	all, rest, _ := strings.Cut(s[1:], "]")
	var l []api.Attr
	for _, one := range strings.Split(all, ",") {
		name, value, _ := strings.Cut(one, "=")
		l = append(l, api.Attr{Name: name, Value: value})
	}
	return l, rest
}

func marks(s string) ([]api.Mark, string) {
	var l []api.Mark
	for strings.HasPrefix(s, "^") {
		var m api.Mark
		if m.Type, s = name(s[1:]); strings.HasPrefix(s, "[") {
			m.Attrs, s = attrs(s)
		}
		l = append(l, m)
	}
	return l, s
}

func shownMarks(l []api.Mark) string {
	s := ""
	for _, m := range l {
		s += "^" + m.Type + shownAttrs(m.Attrs)
	}
	return s
}

func shownAttrs(l []api.Attr) string {
	if len(l) == 0 {
		return ""
	}
	var all []string
	for _, a := range l {
		all = append(all, a.Name+"="+strconv.Quote(a.Value))
	}
	return "[" + strings.Join(all, ",") + "]"
}

// told is all of n, as a node is told here.
func told(n api.Node) string {
	s := n.Type + shownAttrs(n.Attrs) + shownMarks(n.Marks)
	if n.Text != "" {
		s += strconv.Quote(n.Text)
	}
	if len(n.Kids) == 0 {
		return s
	}
	var all []string
	for _, kid := range n.Kids[:min(len(n.Kids), 50)] {
		all = append(all, told(kid))
	}
	return s + "(" + strings.Join(all, " ") + ")"
}

// doc is a document of the pages' schema.
func doc(kids ...api.Node) api.Node {
	return api.Node{Type: "doc", Kids: kids}
}

// nested is p in so many li, each of them behind another p.
func nested(times int) api.Node {
	n := tree("p('ab')")
	for range times {
		n = api.Node{Type: "li", Kids: []api.Node{{Type: "p"}, n}}
	}
	return n
}

// A way is told as its Spots, each as its type, Start and Index, and with "in", if Inside: "doc 0 0, p 1 1 in".
func shownWay(l []api.Spot) string {
	var all []string
	for _, x := range l {
		s := x.Type + " " + strconv.Itoa(x.Start) + " " + strconv.Itoa(x.Index)
		if x.Inside {
			s += " in"
		}
		all = append(all, s)
	}
	return strings.Join(all, ", ")
}

// Nodes that were seen are told each as its type and place: "p 0, text 1".
func shownSeen(l []api.Seen) string {
	var all []string
	for _, x := range l[:min(len(l), 50)] {
		all = append(all, x.Type+" "+strconv.Itoa(x.Place))
	}
	return strings.Join(all, ", ")
}

// What follows goes by the words of the document, one thing behind the other.

func sameMark(a, b api.Mark) bool {
	return a.Type == b.Type && slices.Equal(a.Attrs, b.Attrs)
}

// alike tells whether both are the same, by their fields.
func alike(a, b api.Node) bool {
	return a.Type == b.Type && a.Text == b.Text && slices.Equal(a.Attrs, b.Attrs) && slices.EqualFunc(a.Marks, b.Marks, sameMark) && slices.EqualFunc(a.Kids, b.Kids, alike)
}

func typeOf(s api.Schema, name string) (api.NodeType, bool) {
	for _, t := range s.Types {
		if t.Name == name {
			return t, true
		}
	}
	return api.NodeType{}, false
}

// leaf tells whether a type of s, not text, is one.
func leaf(t api.NodeType) bool {
	return strings.Trim(t.Content, " ") == ""
}

// stretch is a node of a document: it begins at from, and ends ahead of to; its Kids begin at start and end at end.
type stretch struct {
	node       api.Node
	depth      int // how many nodes it stands in
	from, to   int
	start, end int
	word       bool // whether it is a text
}

// sizeByWords is the size of n.
func sizeByWords(s api.Schema, n api.Node) int {
	t, _ := typeOf(s, n.Type)
	switch {
	case n.Type == "text":
		return len(n.Text)
	case leaf(t):
		return 1
	}
	size := 2
	for _, kid := range n.Kids {
		size += sizeByWords(s, kid)
	}
	return size
}

// length is how many tokens the row of the document n has.
func length(s api.Schema, n api.Node) int {
	size := 0
	for _, kid := range n.Kids {
		size += sizeByWords(s, kid)
	}
	return size
}

// stretches are those of the document n: itself, with neither from nor to, and all nodes in it, outer ones ahead.
func stretches(s api.Schema, n api.Node) []stretch {
	all := []stretch{{node: n, end: length(s, n)}}
	for i := 0; i < len(all); i++ {
		up := all[i]
		at := up.start
		for _, kid := range up.node.Kids {
			x := stretch{node: kid, depth: up.depth + 1, from: at, to: at + sizeByWords(s, kid), word: kid.Type == "text"}
			x.start, x.end = x.from+1, x.to-1
			all = append(all, x)
			at = x.to
		}
	}
	return all
}

// liesIn tells whether place lies in x, which is no text.
func (x stretch) liesIn(place int) bool {
	return !x.word && x.start <= place && place <= x.end
}

// on are those that place lies in, by their depth.
func on(all []stretch, place int) []stretch {
	all = slices.DeleteFunc(slices.Clone(all), func(x stretch) bool { return !x.liesIn(place) })
	slices.SortStableFunc(all, func(a, b stretch) int { return a.depth - b.depth })
	return all
}

// wrongByWords is the error of each call.
func wrongByWords(s api.Schema, n api.Node, from, to int) api.Errno {
	if e := node.Document(s, n); e != ok {
		return e
	}
	if from < 0 || to < 0 || from > length(s, n) || to > length(s, n) || from > to {
		return none
	}
	return ok
}

func findByWords(all []stretch, place int) []api.Spot {
	var l []api.Spot
	for _, x := range on(all, place) {
		spot := api.Spot{Type: x.node.Type, Start: x.start}
		for _, kid := range all {
			if kid.depth != x.depth+1 || kid.from < x.start || kid.to > x.end {
				continue
			}
			if kid.to <= place {
				spot.Index++
			}
			if kid.word && kid.from < place && place < kid.to {
				spot.Inside = true
			}
		}
		l = append(l, spot)
	}
	return l
}

func atByWords(all []stretch, place int) (api.Node, bool) {
	for _, x := range all[1:] {
		if x.from == place || x.word && x.from <= place && place < x.to {
			return x.node, true
		}
	}
	return api.Node{}, false
}

func sharedByWords(all []stretch, a, b int) int {
	depth := 0
	for _, x := range all {
		if x.liesIn(a) && x.liesIn(b) {
			depth = max(depth, x.depth)
		}
	}
	return depth
}

func betweenByWords(all []stretch, from, to int) []api.Seen {
	var l []api.Seen
	for _, x := range all[1:] {
		if x.from < to && x.to > from {
			l = append(l, api.Seen{Type: x.node.Type, Place: x.from})
		}
	}
	slices.SortStableFunc(l, func(a, b api.Seen) int { return a.Place - b.Place })
	return l
}

func wordsByWords(all []stretch, from, to int) string {
	bytes := map[int]byte{}
	for _, x := range all {
		for i := 0; x.word && i < len(x.node.Text); i++ {
			bytes[x.from+i] = x.node.Text[i]
		}
	}
	s := ""
	for at := from; at < to; at++ {
		if c, there := bytes[at]; there {
			s += string(rune(c))
		}
	}
	return s
}

// holding are the types of s that hold inline.
func holding(s api.Schema) []string {
	var l []string
	for _, t := range s.Types {
		a, _ := schema.Auto(s, t.Name)
		for _, state := range a.States {
			for _, edge := range state.Edges {
				if schema.Inline(s, edge.Type) && !slices.Contains(l, t.Name) {
					l = append(l, t.Name)
				}
			}
		}
	}
	return l
}

// blocksByWords goes by the types that hold inline.
func blocksByWords(all []stretch, inline []string, from, to int) api.Blocks {
	b := api.Blocks{From: from, To: to, Depth: sharedByWords(all, from, to)}
	for b.Depth > 0 && slices.Contains(inline, on(all, from)[b.Depth].node.Type) {
		b.Depth--
	}
	for _, x := range all {
		if x.depth == b.Depth+1 && x.liesIn(from) {
			b.From = x.from
		}
		if x.depth == b.Depth+1 && x.liesIn(to) {
			b.To = x.to
		}
	}
	return b
}

func endsByWords(all []stretch, place int) [2]int {
	l := on(all, place)
	x := l[len(l)-1]
	return [2]int{x.start, x.end}
}

// What follows asks the calls, and fails unless they answer that, and nothing beside an error.

func findIs(t testing.TB, s api.Schema, n api.Node, at int, want []api.Spot, e api.Errno) {
	t.Helper()
	if got, gotE := place.Find(s, n, at); gotE != e || !slices.Equal(got, want) {
		t.Errorf("Find of %.500s at %d: %s, error %d, want %s, %d", told(n), at, shownWay(got), gotE, shownWay(want), e)
	}
}

func atIs(t testing.TB, s api.Schema, n api.Node, at int, want api.Node, there bool) {
	t.Helper()
	if got, found := place.At(s, n, at); found != there || !alike(got, want) {
		t.Errorf("At of %.500s at %d: %.500s, %t, want %.500s, %t", told(n), at, told(got), found, told(want), there)
	}
}

func sharedIs(t testing.TB, s api.Schema, n api.Node, a, b, want int, e api.Errno) {
	t.Helper()
	if got, gotE := place.Shared(s, n, a, b); gotE != e || got != want {
		t.Errorf("Shared of %.500s by %d, %d: %d, error %d, want %d, %d", told(n), a, b, got, gotE, want, e)
	}
}

func betweenIs(t testing.TB, s api.Schema, n api.Node, from, to int, want []api.Seen, e api.Errno) {
	t.Helper()
	if got, gotE := place.Between(s, n, from, to); gotE != e || !slices.Equal(got, want) {
		t.Errorf("Between of %.500s from %d to %d: %s, error %d, want %s, %d", told(n), from, to, shownSeen(got), gotE, shownSeen(want), e)
	}
}

func wordsIs(t testing.TB, s api.Schema, n api.Node, from, to int, want string, e api.Errno) {
	t.Helper()
	if got, gotE := place.Words(s, n, from, to); gotE != e || got != want {
		t.Errorf("Words of %.500s from %d to %d: %.500q, error %d, want %.500q, %d", told(n), from, to, got, gotE, want, e)
	}
}

func blocksIs(t testing.TB, s api.Schema, n api.Node, from, to int, want api.Blocks, e api.Errno) {
	t.Helper()
	if got, gotE := place.Blocks(s, n, from, to); gotE != e || got != want {
		t.Errorf("Blocks of %.500s from %d to %d: %v, error %d, want %v, %d", told(n), from, to, got, gotE, want, e)
	}
}

func endsIs(t testing.TB, s api.Schema, n api.Node, at int, want [2]int, e api.Errno) {
	t.Helper()
	if from, to, gotE := place.Ends(s, n, at); gotE != e || from != want[0] || to != want[1] {
		t.Errorf("Ends of %.500s at %d: %d, %d, error %d, want %v, %d", told(n), at, from, to, gotE, want, e)
	}
}

// wrong fails unless each call at these places has just that error, and nothing else.
func wrong(t testing.TB, s api.Schema, n api.Node, from, to int, e api.Errno) {
	t.Helper()
	betweenIs(t, s, n, from, to, nil, e)
	wordsIs(t, s, n, from, to, "", e)
	blocksIs(t, s, n, from, to, api.Blocks{}, e)
	if e == none && from > to {
		return
	}
	sharedIs(t, s, n, from, to, 0, e)
	sharedIs(t, s, n, to, from, 0, e)
}

// wrongAt fails unless each call at that place has just that error, and nothing else.
func wrongAt(t testing.TB, s api.Schema, n api.Node, at int, e api.Errno) {
	t.Helper()
	findIs(t, s, n, at, nil, e)
	atIs(t, s, n, at, api.Node{}, false)
	endsIs(t, s, n, at, [2]int{}, e)
}

// asTold fails unless all calls answer of n, at all places and some that are none, as the words say.
func asTold(t testing.TB, s api.Schema, n api.Node) {
	t.Helper()
	if e := node.Document(s, n); e != ok {
		for _, at := range []int{-1, 0, 1, 2} {
			wrongAt(t, s, n, at, e)
			wrong(t, s, n, at, 1, e)
		}
		return
	}
	all, inline, most := stretches(s, n), holding(s), length(s, n)
	for from := -1; from <= most+1; from++ {
		oneAsTold(t, s, n, all, from)
		for to := -1; to <= most+1; to++ {
			pairAsTold(t, s, n, all, inline, from, to)
		}
	}
}

// oneAsTold fails unless all calls that take one place answer as the words say.
func oneAsTold(t testing.TB, s api.Schema, n api.Node, all []stretch, at int) {
	t.Helper()
	if e := wrongByWords(s, n, at, at); e != ok {
		wrongAt(t, s, n, at, e)
		return
	}
	found, there := atByWords(all, at)
	findIs(t, s, n, at, findByWords(all, at), ok)
	atIs(t, s, n, at, found, there)
	endsIs(t, s, n, at, endsByWords(all, at), ok)
}

// pairAsTold fails unless all calls that take two places answer as the words say.
func pairAsTold(t testing.TB, s api.Schema, n api.Node, all []stretch, inline []string, from, to int) {
	t.Helper()
	if wrongByWords(s, n, min(from, to), max(from, to)) == ok {
		sharedIs(t, s, n, from, to, sharedByWords(all, from, to), ok)
	}
	if e := wrongByWords(s, n, from, to); e != ok {
		wrong(t, s, n, from, to, e)
		return
	}
	betweenIs(t, s, n, from, to, betweenByWords(all, from, to), ok)
	wordsIs(t, s, n, from, to, wordsByWords(all, from, to), ok)
	blocksIs(t, s, n, from, to, blocksByWords(all, inline, from, to), ok)
}
