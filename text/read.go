package text

import (
	"slices"

	"copydesk/api"
	"copydesk/attr"
)

// reader reads nodes, as far as its place. Where a method answers false, that is the place of the fault.
type reader struct {
	place
	fault api.Errno // as which it is told
}

func (r *reader) whole() ([]api.Node, bool) {
	r.next()
	if r.at == len(r.text) {
		return nil, true
	}
	l, ok := r.list(1)
	return l, ok && r.at == len(r.text)
}

// list reads nodes that are so deep, one at least.
func (r *reader) list(deep int) ([]api.Node, bool) {
	var l []api.Node
	for {
		n, ok := r.node(deep)
		if !ok {
			return nil, false
		}
		l = append(l, n)
		if !r.take(',') {
			return l, true
		}
	}
}

func (r *reader) node(deep int) (api.Node, bool) {
	if r.next() == '"' {
		return r.words()
	}
	typ, ok := r.name(typed)
	if !ok {
		return api.Node{}, false
	}
	attrs, ok := r.attrs()
	if !ok {
		return api.Node{}, false
	}
	marks, ok := r.marks()
	if !ok {
		return api.Node{}, false
	}
	kids, ok := r.kids(deep)
	return api.Node{Type: typ, Attrs: attrs, Marks: marks, Kids: kids}, ok
}

// typed tells whether a node that is no text may have that Type.
func typed(name string) bool {
	return attr.Name(name) && name != text
}

// words reads a text; it has neither attributes nor kids.
func (r *reader) words() (api.Node, bool) {
	s, ok := r.quoted(worded)
	if !ok {
		return api.Node{}, false
	}
	marks, ok := r.marks()
	return api.Node{Type: text, Marks: marks, Text: s}, ok
}

// kids reads those of a node that is so deep, if any stand there.
func (r *reader) kids(deep int) ([]api.Node, bool) {
	if r.next() != '(' {
		return nil, true
	}
	if deep == api.MaxNest {
		r.fault = api.ErrLong
		return nil, false
	}
	r.take('(')
	if r.take(')') {
		return nil, true
	}
	l, ok := r.list(deep + 1)
	return l, ok && r.take(')')
}

func (r *reader) marks() ([]api.Mark, bool) {
	var l []api.Mark
	for r.take('^') {
		typ, ok := r.name(attr.Name)
		if !ok {
			return nil, false
		}
		attrs, ok := r.attrs()
		if !ok {
			return nil, false
		}
		l = append(l, api.Mark{Type: typ, Attrs: attrs})
	}
	return l, true
}

// attrs reads attributes in braces, if there are braces.
func (r *reader) attrs() ([]api.Attr, bool) {
	if !r.take('{') || r.take('}') {
		return nil, true
	}
	var l []api.Attr
	for {
		a, ok := r.attr(l)
		if !ok {
			return nil, false
		}
		l = append(l, a)
		if !r.take(',') {
			return l, r.take('}')
		}
	}
}

// attr reads the attribute that stands behind those of l.
func (r *reader) attr(l []api.Attr) (api.Attr, bool) {
	name, ok := r.name(func(s string) bool { return goesOn(l, s) })
	if !ok || !r.take('=') {
		return api.Attr{}, false
	}
	value, ok := r.quoted(attr.Value)
	return api.Attr{Name: name, Value: value}, ok
}

// goesOn tells whether an attribute of that name may stand behind those of l.
func goesOn(l []api.Attr, name string) bool {
	return attr.Check(append(slices.Clip(l), api.Attr{Name: name})) == api.OK
}
