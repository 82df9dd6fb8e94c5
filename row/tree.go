package row

import (
	"copydesk/api"
)

// row answers that of kids, one behind the other; all of them may be.
func (l law) row(kids []api.Node) []api.Token {
	var all []api.Token
	for _, kid := range kids {
		switch l.rule(kid.Type).kind {
		case api.TokOpen:
			all = append(all, begin(api.TokOpen, kid))
			all = append(all, l.row(kid.Kids)...)
			all = append(all, api.Token{Kind: api.TokClose})
		case api.TokLeaf:
			all = append(all, begin(api.TokLeaf, kid))
		case api.TokChar:
			all = append(all, chars(kid)...)
		}
	}
	return all
}

// begin answers the token of that kind by which n begins.
func begin(kind int, n api.Node) api.Token {
	return api.Token{Kind: kind, Type: n.Type, Attrs: ownAttrs(n.Attrs), Marks: ownMarks(n.Marks)}
}

// chars answers the row of the text n.
func chars(n api.Node) []api.Token {
	l := make([]api.Token, 0, len(n.Text))
	for _, c := range []byte(n.Text) {
		l = append(l, api.Token{Kind: api.TokChar, Marks: ownMarks(n.Marks), Char: c})
	}
	return l
}

// tree answers the node of the type top that l, which is even, makes.
func tree(top string, l []api.Token) api.Node {
	// On the stack each node stands behind the one that it is to be a Kid of; the last one is not ended yet.
	stack := []api.Node{{Type: top}}
	for size := 0; len(l) > 0; l = l[size:] {
		size = together(l)
		kid := nodeOf(l[:size])
		switch l[0].Kind {
		case api.TokOpen:
			stack = append(stack, kid)
			continue
		case api.TokClose:
			kid = stack[len(stack)-1]
			stack = stack[:len(stack)-1]
		}
		up := &stack[len(stack)-1]
		up.Kids = append(up.Kids, kid)
	}
	return stack[0]
}

// together answers how many of l, from the first one on, are of one text; 1, if that one is of none.
func together(l []api.Token) int {
	size := 1
	for l[0].Kind == api.TokChar && size < len(l) && l[size].Kind == api.TokChar && marked(l[0], l[size]) {
		size++
	}
	return size
}

// nodeOf answers the text that the bytes of l make; the node, without Kids, that begins by l's one token, if that is none.
func nodeOf(l []api.Token) api.Node {
	n := api.Node{Type: l[0].Type, Attrs: ownAttrs(l[0].Attrs), Marks: ownMarks(l[0].Marks)}
	if l[0].Kind != api.TokChar {
		return n
	}
	words := make([]byte, 0, len(l))
	for _, t := range l {
		words = append(words, t.Char)
	}
	n.Type, n.Text = text, string(words)
	return n
}

// joined are rows, one behind the other, in memory of their own.
func joined(rows ...[]api.Token) []api.Token {
	var all []api.Token
	for _, row := range rows {
		all = append(all, row...)
	}
	for i, t := range all {
		all[i].Attrs, all[i].Marks = ownAttrs(t.Attrs), ownMarks(t.Marks)
	}
	return all
}

func ownMarks(l []api.Mark) []api.Mark {
	own := append([]api.Mark(nil), l...)
	for i, m := range own {
		own[i].Attrs = ownAttrs(m.Attrs)
	}
	return own
}

func ownAttrs(l []api.Attr) []api.Attr {
	return append([]api.Attr(nil), l...)
}
