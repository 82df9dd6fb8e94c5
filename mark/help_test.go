package mark_test

import (
	"slices"
	"strconv"
	"strings"
	"testing"

	"copydesk/api"
	"copydesk/attr"
	"copydesk/schema"
)

var name16, name17 = strings.Repeat("n", 16), strings.Repeat("n", 17)

// pages is the schema of the pages, in memory of its own.
func pages() api.Schema {
	return api.Schema{Types: []api.NodeType{
		{Name: "doc", Content: "block+"},
		{Name: "p", Content: "inline*", Groups: list("block"), Marks: list("code em")},
		{Name: "h", Content: "text*", Groups: list("block"), Attrs: []api.AttrSpec{{Name: "level", Default: "1"}}, Marks: list("em")},
		{Name: "li", Content: "p block*", Groups: list("block")},
		{Name: "hr", Groups: list("block")},
		{Name: "br", Inline: true, Groups: list("inline")},
		{Name: "text", Inline: true, Groups: list("inline")},
	}, Marks: []api.MarkType{{Name: "em"}, {Name: "code", Excludes: list("em")}}}
}

// of is a schema with marks, told each as "name > those that it excludes ; its attributes", those that are Must with a ! behind.
func of(marks ...string) api.Schema {
	s := api.Schema{Types: []api.NodeType{{Name: "top", Content: "text*"}, {Name: "text", Inline: true}}}
	for _, one := range marks {
		one, attrs, _ := strings.Cut(one, ";")
		name, excludes, _ := strings.Cut(one, ">")
		t := api.MarkType{Name: strings.TrimSpace(name), Excludes: list(excludes)}
		for _, a := range list(attrs) {
			plain := strings.TrimSuffix(a, "!")
			t.Attrs = append(t.Attrs, api.AttrSpec{Name: plain, Must: plain != a})
		}
		s.Marks = append(s.Marks, t)
	}
	return s
}

// links is a schema whose marks have attributes, or exclude one another in each way.
func links() api.Schema {
	return of("em", "a ; href! title", "sub > sup", "sup > sub", "code > a em", "b", "cite ; by")
}

// may fails unless s may be.
func may(t *testing.T, s api.Schema) api.Schema {
	t.Helper()
	if e := schema.Check(s); e != api.OK {
		t.Fatalf("%v: error %d", s, e)
	}
	return s
}

func list(s string) []string {
	return strings.Fields(s)
}

// letters are n names, rising.
func letters(n int) []string {
	var l []string
	for i := range n {
		l = append(l, string([]byte{'m', byte('a' + i)}))
	}
	return l
}

// wide is a schema of n marks, of which those exclude others that are told to.
func wide(n int, excludes func(i, j int) bool) api.Schema {
	s := of(letters(n)...)
	for i := range s.Marks {
		for j, name := range letters(n) {
			if i != j && excludes(i, j) {
				s.Marks[i].Excludes = append(s.Marks[i].Excludes, name)
			}
		}
	}
	return s
}

func never(i, j int) bool  { return false }
func always(i, j int) bool { return true }

// marks makes marks of their Types, each with its attributes behind a colon: "em a:href=x,title=y".
func marks(s string) []api.Mark {
	var l []api.Mark
	for _, one := range list(s) {
		l = append(l, mk(one))
	}
	return l
}

func mk(s string) api.Mark {
	typ, attrs, told := strings.Cut(s, ":")
	m := api.Mark{Type: typ}
	if !told {
		return m
	}
	for _, a := range strings.Split(attrs, ",") {
		name, value, _ := strings.Cut(a, "=")
		m.Attrs = append(m.Attrs, api.Attr{Name: name, Value: value})
	}
	return m
}

// shown is all of l.
func shown(l []api.Mark) string {
	var b strings.Builder
	for _, m := range l {
		b.WriteString(strconv.Quote(m.Type))
		for _, a := range m.Attrs {
			b.WriteString(" " + strconv.Quote(a.Name) + "=" + strconv.Quote(a.Value))
		}
		b.WriteString("; ")
	}
	return b.String()
}

// same tells whether both are the same, by their fields.
func same(a, b []api.Mark) bool {
	return slices.EqualFunc(a, b, alike)
}

func alike(a, b api.Mark) bool {
	return a.Type == b.Type && slices.Equal(a.Attrs, b.Attrs)
}

func rankOf(s api.Schema, typ string) int {
	return slices.IndexFunc(s.Marks, func(t api.MarkType) bool { return t.Name == typ })
}

// excludes tells whether the one type has the other one among its Excludes.
func excludes(s api.Schema, one, other string) bool {
	return slices.Contains(s.Marks[rankOf(s, one)].Excludes, other)
}

// fitsByWords tells whether m fits s, which may be.
func fitsByWords(s api.Schema, m api.Mark) bool {
	i := rankOf(s, m.Type)
	return i >= 0 && attr.Fits(s.Marks[i].Attrs, m.Attrs)
}

// setByWords tells whether l is a set, pair by pair.
func setByWords(s api.Schema, l []api.Mark) bool {
	for j, b := range l {
		if !fitsByWords(s, b) {
			return false
		}
		for _, a := range l[:j] {
			if rankOf(s, a.Type) >= rankOf(s, b.Type) || excludes(s, a.Type, b.Type) || excludes(s, b.Type, a.Type) {
				return false
			}
		}
	}
	return true
}

// addByWords adds m to the set l, one thing behind the other.
func addByWords(s api.Schema, l []api.Mark, m api.Mark) []api.Mark {
	left := slices.DeleteFunc(slices.Clone(l), func(one api.Mark) bool { return one.Type == m.Type })
	left = slices.DeleteFunc(left, func(one api.Mark) bool { return excludes(s, m.Type, one.Type) })
	for _, one := range left {
		if excludes(s, one.Type, m.Type) {
			return l
		}
	}
	left = append(left, m)
	slices.SortFunc(left, func(a, b api.Mark) int { return rankOf(s, a.Type) - rankOf(s, b.Type) })
	return left
}

// countByWords counts the sets of types, one type behind the other: with it, or without it.
func countByWords(s api.Schema, chosen []string, from int) int {
	if from == len(s.Marks) {
		return 1
	}
	name := s.Marks[from].Name
	count := countByWords(s, chosen, from+1)
	for _, other := range chosen {
		if excludes(s, name, other) || excludes(s, other, name) {
			return count
		}
	}
	return count + countByWords(s, append(slices.Clone(chosen), name), from+1)
}
