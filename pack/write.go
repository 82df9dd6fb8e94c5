package pack

import (
	"slices"

	"copydesk/api"
	"copydesk/wire"
)

// writer puts bytes together. It notes what can't be told, and goes on: what is too long may stand behind what is wrong, and counts ahead of it.
// (The bytes mean nothing from then on.)
type writer struct {
	b     []byte
	deep  int  // how deep the node stands that is put
	long  bool // something is more than a limit allows
	wrong bool // something can't be told otherwise
}

// put answers b, and the bytes of x, as write puts them.
func put[T any](b []byte, x T, write func(*writer, T)) ([]byte, api.Errno) {
	w := &writer{b: slices.Clone(b)}
	write(w, x)
	switch {
	case w.long:
		return nil, api.ErrLong
	case w.wrong:
		return nil, api.ErrArg
	}
	return w.b, api.OK
}

// putList puts how many there are, and each as write does.
func putList[T any](w *writer, l []T, write func(*writer, T)) {
	w.within(len(l), api.MaxDoc)
	w.number(len(l))
	for _, x := range l {
		if w.long {
			return // nothing else counts any more, and a node may lie in itself
		}
		write(w, x)
	}
}

// within notes a number, or a length, that is not from 0 to most.
func (w *writer) within(x, most int) {
	w.long = w.long || x > most
	w.wrong = w.wrong || x < 0
}

// absent notes a number, or a length, of which there must be none. It is held against the bound, too, which counts ahead of that.
func (w *writer) absent(x, most int) {
	w.within(x, most)
	w.wrong = w.wrong || x != 0
}

func (w *writer) number(x int) {
	w.within(x, api.MaxPlace)
	w.b = append(w.b, wire.Number(nil, uint64(x))...)
}

func (w *writer) text(s string) {
	p, e := wire.Piece(nil, s)
	w.long = w.long || e != api.OK
	w.b = append(w.b, p...)
}

func (w *writer) truth(x bool) {
	n := 0
	if x {
		n = 1
	}
	w.number(n)
}

func (w *writer) attr(a api.Attr) {
	w.text(a.Name)
	w.text(a.Value)
}

func (w *writer) mark(m api.Mark) {
	w.text(m.Type)
	putList(w, m.Attrs, (*writer).attr)
}

func (w *writer) node(n api.Node) {
	w.deep++
	w.within(w.deep, api.MaxDeep)
	w.text(n.Type)
	putList(w, n.Attrs, (*writer).attr)
	putList(w, n.Marks, (*writer).mark)
	w.text(n.Text)
	putList(w, n.Kids, (*writer).node)
	w.deep--
}

// token puts the fields that t's kind has, and takes them out of its copy: there must be nothing in what is left.
func (w *writer) token(t api.Token) {
	w.number(t.Kind)
	switch t.Kind {
	case api.TokOpen, api.TokLeaf:
		w.text(t.Type)
		putList(w, t.Attrs, (*writer).attr)
		putList(w, t.Marks, (*writer).mark)
		t.Type, t.Attrs, t.Marks = "", nil, nil
	case api.TokClose:
	case api.TokChar:
		w.number(int(t.Char))
		putList(w, t.Marks, (*writer).mark)
		t.Char, t.Marks = 0, nil
	default:
		w.wrong = true
	}
	w.noToken(t)
}

func (w *writer) noToken(t api.Token) {
	w.absent(len(t.Type), api.MaxPiece)
	w.absent(len(t.Attrs), api.MaxDoc)
	w.absent(len(t.Marks), api.MaxDoc)
	w.absent(int(t.Char), api.MaxPlace)
}

// step puts the fields that t's kind has, and takes them out of its copy, as token does.
func (w *writer) step(t api.Step) {
	w.number(t.Kind)
	w.number(t.From)
	switch t.Kind {
	case api.StepPut, api.StepSwap:
		w.number(t.To)
		putList(w, t.Mid, (*writer).token)
		t.To, t.Mid = 0, nil
	case api.StepWrap:
		w.number(t.To)
		w.number(t.Gap)
		w.number(t.End)
		w.number(t.Insert)
		putList(w, t.Mid, (*writer).token)
		t.To, t.Gap, t.End, t.Insert, t.Mid = 0, 0, 0, 0, nil
	case api.StepMark, api.StepBare:
		w.number(t.To)
		w.mark(t.Mark)
		t.To, t.Mark = 0, api.Mark{}
	case api.StepAttr:
		w.text(t.Name)
		w.text(t.Value)
		t.Name, t.Value = "", ""
	default:
		w.wrong = true
	}
	w.noStep(t)
}

func (w *writer) noStep(t api.Step) {
	w.absent(t.To, api.MaxPlace)
	w.absent(t.Gap, api.MaxPlace)
	w.absent(t.End, api.MaxPlace)
	w.absent(t.Insert, api.MaxPlace)
	w.absent(len(t.Mid), api.MaxDoc)
	w.absent(len(t.Mark.Type), api.MaxPiece)
	w.absent(len(t.Mark.Attrs), api.MaxDoc)
	w.absent(len(t.Name), api.MaxPiece)
	w.absent(len(t.Value), api.MaxPiece)
}

func (w *writer) steps(l []api.Step) {
	putList(w, l, (*writer).step)
}

func (w *writer) spec(a api.AttrSpec) {
	w.text(a.Name)
	w.text(a.Default)
	w.truth(a.Must)
}

func (w *writer) nodeType(t api.NodeType) {
	w.text(t.Name)
	w.text(t.Content)
	putList(w, t.Groups, (*writer).text)
	w.truth(t.Inline)
	putList(w, t.Attrs, (*writer).spec)
	putList(w, t.Marks, (*writer).text)
}

func (w *writer) markType(m api.MarkType) {
	w.text(m.Name)
	putList(w, m.Excludes, (*writer).text)
	putList(w, m.Attrs, (*writer).spec)
}

func (w *writer) schema(s api.Schema) {
	putList(w, s.Types, (*writer).nodeType)
	putList(w, s.Marks, (*writer).markType)
}
