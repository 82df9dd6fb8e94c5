package text_test

import (
	"fmt"
	"regexp"
	"slices"
	"strings"
	"testing"

	"copydesk/api"
	"copydesk/text"
)

const (
	ok   = api.OK
	arg  = api.ErrArg
	long = api.ErrLong
	bad  = api.ErrBad
)

var (
	name16, name17   = strings.Repeat("n", 16), strings.Repeat("n", 17)
	value64, value65 = strings.Repeat("v", 64), strings.Repeat("v", 65)
)

// of is a node of a type, with kids.
func of(typ string, kids ...api.Node) api.Node {
	return api.Node{Type: typ, Kids: kids}
}

// words is a text.
func words(s string) api.Node {
	return api.Node{Type: "text", Text: s}
}

// with is n, with attributes that are told each as "name=value".
func with(n api.Node, attrs ...string) api.Node {
	n.Attrs = pairs(attrs)
	return n
}

// on is n, with one more mark, whose attributes are told likewise.
func on(n api.Node, typ string, attrs ...string) api.Node {
	n.Marks = append(slices.Clip(n.Marks), api.Mark{Type: typ, Attrs: pairs(attrs)})
	return n
}

func pairs(attrs []string) []api.Attr {
	var l []api.Attr
	for _, one := range attrs {
		name, value, _ := strings.Cut(one, "=")
		l = append(l, api.Attr{Name: name, Value: value})
	}
	return l
}

// letters are n attributes, from a on.
func letters(n int) []string {
	var l []string
	for i := range n {
		l = append(l, string([]byte{byte('a' + i), '='}))
	}
	return l
}

// tower is n in nodes p, one within the other, so that it is nested so much deeper.
func tower(n api.Node, more int) api.Node {
	for range more {
		n = of("p", n)
	}
	return n
}

// alike tells whether both are the same, by their fields.
func alike(a, b []api.Node) bool {
	marks := func(x, y api.Mark) bool { return x.Type == y.Type && slices.Equal(x.Attrs, y.Attrs) }
	return slices.EqualFunc(a, b, func(x, y api.Node) bool {
		return x.Type == y.Type && x.Text == y.Text && slices.Equal(x.Attrs, y.Attrs) && slices.EqualFunc(x.Marks, y.Marks, marks) && alike(x.Kids, y.Kids)
	})
}

func shown(l []api.Node) string {
	s := fmt.Sprintf("%+v", l)
	return s[:min(len(s), 500)]
}

// cut is s, not too long to be shown.
func cut(s string) string {
	return s[:min(len(s), 200)]
}

// What follows goes by the words of the document: texts are put together of parts.

var slashes = strings.NewReplacer(`"`, `\"`, `\`, `\\`)

func quoteByWords(s string) string {
	return `"` + slashes.Replace(s) + `"`
}

func textByWords(n api.Node) string {
	s := n.Type
	if n.Type == "text" {
		s = quoteByWords(n.Text)
	}
	s += attrsByWords(n.Attrs)
	for _, m := range n.Marks {
		s += "^" + m.Type + attrsByWords(m.Attrs)
	}
	if len(n.Kids) > 0 {
		s += "(" + listByWords(n.Kids) + ")"
	}
	return s
}

func listByWords(l []api.Node) string {
	var all []string
	for _, n := range l {
		all = append(all, textByWords(n))
	}
	return strings.Join(all, ",")
}

func attrsByWords(l []api.Attr) string {
	if len(l) == 0 {
		return ""
	}
	var all []string
	for _, a := range l {
		all = append(all, a.Name+"="+quoteByWords(a.Value))
	}
	return "{" + strings.Join(all, ",") + "}"
}

var (
	aName  = regexp.MustCompile(`^[a-z]{1,16}$`)
	aValue = regexp.MustCompile(`^[ -~]{0,64}$`)
	aText  = regexp.MustCompile(`^[ -~]+$`)
)

func attrsMay(l []api.Attr) bool {
	rise := slices.IsSortedFunc(l, func(a, b api.Attr) int {
		if a.Name == b.Name {
			return -1
		}
		return strings.Compare(a.Name, b.Name)
	})
	return rise && len(l) <= 8 && !slices.ContainsFunc(l, func(a api.Attr) bool { return !aName.MatchString(a.Name) || !aValue.MatchString(a.Value) })
}

// mayByWords tells whether n can be told, however deep and long it is.
func mayByWords(n api.Node) bool {
	if n.Type == "text" && (!aText.MatchString(n.Text) || len(n.Attrs)+len(n.Kids) > 0) {
		return false
	}
	if n.Type != "text" && (!aName.MatchString(n.Type) || n.Text != "") {
		return false
	}
	for _, m := range n.Marks {
		if !aName.MatchString(m.Type) || !attrsMay(m.Attrs) {
			return false
		}
	}
	return attrsMay(n.Attrs) && !slices.ContainsFunc(n.Kids, func(kid api.Node) bool { return !mayByWords(kid) })
}

func deepByWords(l []api.Node) int {
	deep := 0
	for _, n := range l {
		deep = max(deep, 1+deepByWords(n.Kids))
	}
	return deep
}

func told(l []api.Node) (string, api.Errno) {
	if deepByWords(l) > 16 {
		return "", long
	}
	if slices.ContainsFunc(l, func(n api.Node) bool { return !mayByWords(n) }) {
		return "", arg
	}
	s := listByWords(l)
	if len(s) > 1<<18 {
		return "", long
	}
	return s, ok
}

// asTold fails unless List and Node tell l as the words say, and what they tell is read again.
func asTold(t testing.TB, l []api.Node) (string, api.Errno) {
	t.Helper()
	want, e := told(l)
	got, f := text.List(l)
	if got != want || f != e {
		t.Fatalf("List of %s: %q, error %d, want %q, error %d", shown(l), cut(got), f, cut(want), e)
	}
	for _, n := range l {
		want, e := told([]api.Node{n})
		if got, f := text.Node(n); got != want || f != e {
			t.Fatalf("Node of %s: %q, error %d, want %q, error %d", shown([]api.Node{n}), cut(got), f, cut(want), e)
		}
	}
	if e == ok {
		if back, at, e := text.Parse(got); e != ok || at != 0 || !alike(back, l) {
			t.Fatalf("Parse of %q: %s at %d, error %d", cut(got), shown(back), at, e)
		}
	}
	return got, e
}

// reading goes over a text sign by sign, by a table that tells what may stand behind what.
type reading struct {
	state string
	back  string       // the state behind attributes
	rows  [][]api.Node // those that are not ended yet, the outermost one first
	name  string       // of the attribute that is read
	mark  bool         // the attributes are a mark's
}

// steps tells for each state what may come, and the state that comes of it; + is a state at which a text may end.
var steps = map[string]map[string]string{
	"begin+":  {"name": "named+", "quote": "text+"},
	"node":    {"name": "named+", "quote": "text+"},
	"kid":     {"name": "named+", "quote": "text+", ")": "done+"},
	"named+":  {"{": "first", "^": "mark", "(": "kid", ",": "node", ")": "done+"},
	"told+":   {"^": "mark", "(": "kid", ",": "node", ")": "done+"},
	"mark":    {"name": "marked+"},
	"marked+": {"{": "first", "^": "mark", "(": "kid", ",": "node", ")": "done+"},
	"text+":   {"^": "sign", ",": "node", ")": "done+"},
	"sign":    {"name": "signed+"},
	"signed+": {"{": "first", "^": "sign", ",": "node", ")": "done+"},
	"done+":   {",": "node", ")": "done+"},
	"first":   {"name": "attr", "}": "back"},
	"more":    {"name": "attr"},
	"attr":    {"=": "value"},
	"value":   {"quote": "valued"},
	"valued":  {",": "more", "}": "back"},
}

// part is a run of letters, what stands in quotes up to where it can't go on, or a sign.
var part = regexp.MustCompile(`(?s)[a-z]+|"(?:[ !#-\[\]-~]|\\["\\])*|[^ \n]`)

// parsed tells what Parse must answer.
func parsed(s string) ([]api.Node, int, api.Errno) {
	if len(s) > 1<<18 {
		return nil, -1, long
	}
	r := &reading{state: "begin+", rows: [][]api.Node{nil}}
	for at := 0; ; {
		x := part.FindStringIndex(s[at:])
		if x == nil {
			break
		}
		from, to := at+x[0], at+x[1]
		class, one := s[from:to], s[from:to]
		switch {
		case class[0] >= 'a' && class[0] <= 'z':
			class = "name"
		case class[0] == '"':
			class = "quote"
		}
		last := r.state
		r.state = steps[last][class]
		if r.state == "" || class == ")" && len(r.rows) == 1 {
			return nil, from, bad
		}
		if class == "quote" {
			switch {
			case strings.HasPrefix(s[to:], `\`):
				return nil, to + 1, bad
			case !strings.HasPrefix(s[to:], `"`):
				return nil, to, bad
			}
			to++
			one = strings.NewReplacer(`\\`, `\`, `\"`, `"`).Replace(one[1:])
		}
		if class == "(" && len(r.rows) == 16 {
			return nil, from, long
		}
		if !r.put(last, class, one) {
			return nil, from, bad
		}
		at = to
	}
	if !strings.HasSuffix(r.state, "+") || len(r.rows) > 1 {
		return nil, len(s), bad
	}
	return r.rows[0], 0, ok
}

// put puts what was read to what was read ahead; false, if it may not be there.
func (r *reading) put(last, class, one string) bool {
	top := &r.rows[len(r.rows)-1]
	var n *api.Node
	if len(*top) > 0 {
		n = &(*top)[len(*top)-1]
	}
	switch {
	case r.state == "named+":
		*top = append(*top, of(one))
		return aName.MatchString(one) && one != "text"
	case class == "quote" && r.state == "text+":
		*top = append(*top, words(one))
		return one != ""
	case r.state == "marked+" || r.state == "signed+":
		n.Marks = append(n.Marks, api.Mark{Type: one})
		return aName.MatchString(one)
	case r.state == "first":
		r.mark = last != "named+"
		r.back = map[string]string{"named+": "told+", "marked+": "told+", "signed+": "text+"}[last]
	case r.state == "back":
		r.state = r.back
	case r.state == "attr":
		r.name = one
		return attrsMay(append(slices.Clone(*r.attrs(n)), api.Attr{Name: one}))
	case r.state == "valued":
		l := r.attrs(n)
		*l = append(*l, api.Attr{Name: r.name, Value: one})
		return len(one) <= 64
	case class == "(":
		r.rows = append(r.rows, nil)
	case class == ")":
		r.rows = r.rows[:len(r.rows)-1]
		up := r.rows[len(r.rows)-1]
		up[len(up)-1].Kids = *top
	}
	return true
}

func (r *reading) attrs(n *api.Node) *[]api.Attr {
	if r.mark {
		return &n.Marks[len(n.Marks)-1].Attrs
	}
	return &n.Attrs
}

// asParsed fails unless Parse answers of s what the table tells.
func asParsed(t testing.TB, s string) ([]api.Node, api.Errno) {
	t.Helper()
	want, place, e := parsed(s)
	got, at, f := text.Parse(s)
	if f != e || at != place || !alike(got, want) {
		t.Fatalf("Parse of %q: %s at %d, error %d, want %s at %d, error %d", cut(s), shown(got), at, f, shown(want), place, e)
	}
	return got, e
}
