package pack

import (
	"copydesk/api"
	"copydesk/wire"
)

// reader reads by a *wire.Reader, and holds what it reads against what may be told, too.
type reader struct {
	*wire.Reader
	fault api.Errno // the first one, unless it is the Reader's own
	deep  int       // how deep the node stands that is read
}

// get answers what read reads, if it reads all of b without a fault.
func get[T any](b []byte, read func(*reader) T) (T, api.Errno) {
	r := &reader{Reader: wire.New(b)}
	x := read(r)
	if e := r.first(); e != api.OK {
		var none T
		return none, e
	}
	return x, api.OK
}

// list reads how many there are, and each as read does.
func list[T any](r *reader, read func(*reader) T) []T {
	var l []T
	for range r.upTo(api.MaxDoc, api.ErrLong) {
		if !r.well() {
			return nil // the bytes may tell of far more than there is
		}
		l = append(l, read(r))
	}
	return l
}

// well tells whether there was no fault yet.
func (r *reader) well() bool {
	return r.fault == api.OK && r.Err() == api.OK
}

// fail keeps e as the fault, unless there was one ahead of it.
func (r *reader) fail(e api.Errno) {
	if r.well() {
		r.fault = e
	}
}

// first answers the first fault. Bytes that are left are the last one there can be.
func (r *reader) first() api.Errno {
	if r.fault != api.OK {
		return r.fault
	}
	return r.End()
}

// upTo reads a number that is most at the most; a greater one is the fault e.
func (r *reader) upTo(most uint64, e api.Errno) int {
	x := r.Number()
	if x > most {
		r.fail(e)
		return 0
	}
	return int(x)
}

func (r *reader) number() int {
	return r.upTo(api.MaxPlace, api.ErrLong)
}

// kind reads one of the kinds from 1 to last.
func (r *reader) kind(last uint64) int {
	x := r.upTo(last, api.ErrBad)
	if x == 0 {
		r.fail(api.ErrBad)
	}
	return x
}

func (r *reader) truth() bool {
	return r.upTo(1, api.ErrBad) == 1
}

func (r *reader) char() byte {
	return byte(r.upTo(255, api.ErrBad))
}

func (r *reader) attr() api.Attr {
	return api.Attr{Name: r.Piece(), Value: r.Piece()}
}

func (r *reader) mark() api.Mark {
	return api.Mark{Type: r.Piece(), Attrs: list(r, (*reader).attr)}
}

func (r *reader) node() api.Node {
	if r.deep == api.MaxDeep {
		r.fail(api.ErrLong)
		return api.Node{}
	}
	r.deep++
	n := api.Node{
		Type:  r.Piece(),
		Attrs: list(r, (*reader).attr),
		Marks: list(r, (*reader).mark),
		Text:  r.Piece(),
		Kids:  list(r, (*reader).node),
	}
	r.deep--
	return n
}

func (r *reader) token() api.Token {
	t := api.Token{Kind: r.kind(api.TokChar)}
	switch t.Kind {
	case api.TokOpen, api.TokLeaf:
		t.Type = r.Piece()
		t.Attrs = list(r, (*reader).attr)
		t.Marks = list(r, (*reader).mark)
	case api.TokChar:
		t.Char = r.char()
		t.Marks = list(r, (*reader).mark)
	}
	return t
}

func (r *reader) step() api.Step {
	t := api.Step{Kind: r.kind(api.StepSwap), From: r.number()}
	switch t.Kind {
	case api.StepPut, api.StepSwap:
		t.To = r.number()
		t.Mid = list(r, (*reader).token)
	case api.StepWrap:
		t.To, t.Gap, t.End, t.Insert = r.number(), r.number(), r.number(), r.number()
		t.Mid = list(r, (*reader).token)
	case api.StepMark, api.StepBare:
		t.To = r.number()
		t.Mark = r.mark()
	case api.StepAttr:
		t.Name, t.Value = r.Piece(), r.Piece()
	}
	return t
}

func (r *reader) steps() []api.Step {
	return list(r, (*reader).step)
}

func (r *reader) spec() api.AttrSpec {
	return api.AttrSpec{Name: r.Piece(), Default: r.Piece(), Must: r.truth()}
}

func (r *reader) nodeType() api.NodeType {
	return api.NodeType{
		Name:    r.Piece(),
		Content: r.Piece(),
		Groups:  list(r, (*reader).Piece),
		Inline:  r.truth(),
		Attrs:   list(r, (*reader).spec),
		Marks:   list(r, (*reader).Piece),
	}
}

func (r *reader) markType() api.MarkType {
	return api.MarkType{Name: r.Piece(), Excludes: list(r, (*reader).Piece), Attrs: list(r, (*reader).spec)}
}

func (r *reader) schema() api.Schema {
	return api.Schema{Types: list(r, (*reader).nodeType), Marks: list(r, (*reader).markType)}
}
