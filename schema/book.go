package schema

import (
	"slices"

	"copydesk/api"
	"copydesk/attr"
	"copydesk/expr"
)

// text is the name of the type that each schema must have.
const text = "text"

// book is a schema as it is looked through: its index, and what is told by that.
type book struct {
	index
	contents []api.Expr // by place of their types
	made     set        // the types that can be made
}

// open answers the book of s, and whether s may be; if not, nothing is found in the book.
func open(s api.Schema) (book, bool) {
	if len(s.Types) == 0 || len(s.Types) > api.MaxTypes || len(s.Marks) > api.MaxMarks {
		return book{}, false
	}
	b := book{index: indexed(s)}
	top := s.Types[0]
	if !b.typed() || !b.marked() || !b.plain() || !first(top) || !b.read(b.stands(top.Name)) {
		return book{}, false
	}
	b.grow()
	if b.stands(top.Name)&b.made == 0 {
		return book{}, false
	}
	return b, true
}

// typed tells whether all types may be, whatever their Contents are.
func (x *index) typed() bool {
	last := ""
	for _, t := range x.types {
		if !attr.Name(t.Name) || t.Name == last || attr.CheckSpecs(t.Attrs) != api.OK {
			return false
		}
		if !rise(t.Groups, x.groupable) || !rise(t.Marks, x.markable) {
			return false
		}
		last = t.Name
	}
	return true
}

// marked tells whether all marks may be.
func (x *index) marked() bool {
	for i, m := range x.marks {
		if !attr.Name(m.Name) || x.rank(m.Name) != i || attr.CheckSpecs(m.Attrs) != api.OK {
			return false
		}
		if !rise(m.Excludes, x.markable) || slices.Contains(m.Excludes, m.Name) {
			return false
		}
	}
	return true
}

// rise tells whether each of l may stand there, and is behind a lesser one.
func rise(l []string, may func(string) bool) bool {
	for i, name := range l {
		rises := i == 0 || l[i-1] < name
		if !rises || !may(name) {
			return false
		}
	}
	return true
}

func (x *index) groupable(name string) bool {
	_, taken := x.find(name)
	return !taken && attr.Name(name)
}

func (x *index) markable(name string) bool {
	return x.rank(name) >= 0
}

// plain tells whether there is the type text, and has nothing that it may not have.
func (x *index) plain() bool {
	i, ok := x.find(text)
	if !ok {
		return false
	}
	t := x.types[i]
	return t.Inline && t.Content == "" && len(t.Attrs) == 0 && len(t.Marks) == 0
}

// first tells whether t may be the top, if no Content names it.
func first(t api.NodeType) bool {
	return !t.Inline && len(t.Attrs) == 0 && len(t.Groups) == 0
}

// read reads all Contents, and tells whether they may be, where none may name top.
func (b *book) read(top set) bool {
	for _, t := range b.types {
		e, _, err := expr.Parse(t.Content)
		if err != api.OK || !b.holds(e, top) {
			return false
		}
		b.contents = append(b.contents, e)
	}
	return true
}

// holds tells whether each name of e stands for types, none for top, and all together for Inline ones alone or for none.
func (x *index) holds(e api.Expr, top set) bool {
	var all set
	for _, name := range expr.Names(e) {
		types := x.stands(name)
		if types == 0 {
			return false
		}
		all |= types
	}
	return all&top == 0 && (all&x.inline == 0 || all&^x.inline == 0)
}

// long tells whether anything of s is too much.
func long(s api.Schema) bool {
	if len(s.Types) > api.MaxTypes || len(s.Marks) > api.MaxMarks {
		return true
	}
	return slices.ContainsFunc(s.Types, longType) || slices.ContainsFunc(s.Marks, longMark)
}

func longType(t api.NodeType) bool {
	return longName(t.Name) || longList(t.Groups) || longList(t.Marks) || attr.CheckSpecs(t.Attrs) == api.ErrLong
}

func longMark(m api.MarkType) bool {
	return longName(m.Name) || longList(m.Excludes) || attr.CheckSpecs(m.Attrs) == api.ErrLong
}

func longList(l []string) bool {
	return slices.ContainsFunc(l, longName)
}

func longName(s string) bool {
	return len(s) > api.MaxName
}
