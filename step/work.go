package step

import (
	"slices"

	"copydesk/api"
	"copydesk/attr"
	"copydesk/mark"
	"copydesk/row"
)

// work is a change, and the row of the document that it is done to.
type work struct {
	change
	schema api.Schema
	row    []api.Token
}

// done answers t at work on n, and what it makes of n; or Do's error.
func done(s api.Schema, n api.Node, t api.Step) (work, api.Node, api.Errno) {
	l, e := row.Of(s, n)
	if e != api.OK {
		return work{}, api.Node{}, e
	}
	if e := Check(s, t); e != api.OK {
		return work{}, api.Node{}, e
	}
	w := work{change{t}, s, l}
	l, e = by(deeds(), t.Kind)(w)
	if e != api.OK {
		return work{}, api.Node{}, e
	}
	n, e = row.Make(s, l)
	return w, n, e
}

func (w work) put() ([]api.Token, api.Errno) {
	return row.Put(w.row, w.From, w.To, w.Mid)
}

func (w work) wrap() ([]api.Token, api.Errno) {
	stays, e := row.Cut(w.row, w.Gap, w.End)
	if e != api.OK {
		return nil, e
	}
	// All is put at once: with one side alone the row might be too long.
	return row.Put(w.row, w.From, w.To, slices.Concat(w.Mid[:w.Insert], stays, w.Mid[w.Insert:]))
}

func (w work) mark() ([]api.Token, api.Errno) {
	marks := marksOf(w.schema)
	return w.marked(func(in rule, l []api.Mark) []api.Mark {
		if !in.allows {
			return l
		}
		// There is no error: what stands in a document is a set, and Check saw that the Mark fits.
		l, _ = mark.Add(marks, l, w.Mark)
		return l
	})
}

func (w work) bare() ([]api.Token, api.Errno) {
	return w.marked(func(_ rule, l []api.Mark) []api.Mark { return mark.Remove(l, w.Mark) })
}

func (w work) attr() ([]api.Token, api.Errno) {
	if w.From >= len(w.row) || w.row[w.From].Kind == api.TokClose || w.row[w.From].Kind == api.TokChar {
		return nil, api.ErrPlace
	}
	attrs, e := attr.Set(w.row[w.From].Attrs, w.Name, w.Value)
	if e != api.OK {
		return nil, e
	}
	l := slices.Clone(w.row)
	t := &l[w.From]
	t.Attrs = attrs
	return l, api.OK
}

func (w work) swap() ([]api.Token, api.Errno) {
	if w.To > len(w.row) {
		return nil, api.ErrPlace
	}
	l := slices.Clone(w.row)
	for i, mid := range w.Mid {
		t := &l[w.From+i]
		t.Marks = mid.Marks
	}
	// What is unlike still is beside its Marks.
	if !row.Same(l[w.From:w.To], w.Mid) {
		return nil, api.ErrPlace
	}
	return l, api.OK
}
