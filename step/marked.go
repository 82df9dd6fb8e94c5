package step

import (
	"slices"

	"copydesk/api"
	"copydesk/mark"
	"copydesk/schema"
)

// rule is what holds for a type where a Mark is added or taken.
type rule struct {
	inline bool // a node of it has Marks as texts have them
	allows bool // what stands in a node of it may have that Mark
}

// rules answer that of a type, which is looked up once: whoever asks a schema has all of it looked through.
func (w work) rules() func(typ string) rule {
	known := map[string]rule{}
	return func(typ string) rule {
		r, ok := known[typ]
		if !ok {
			r = rule{schema.Inline(w.schema, typ), schema.Allows(w.schema, typ, w.Mark.Type)}
			known[typ] = r
		}
		return r
	}
}

// marked answers the row, each byte and each Inline leaf from From to To having the Marks that comes answers of its own, and of the node that it stands in.
func (w work) marked(comes func(in rule, l []api.Mark) []api.Mark) ([]api.Token, api.Errno) {
	if w.To > len(w.row) {
		return nil, api.ErrPlace
	}
	ruleOf, l := w.rules(), slices.Clone(w.row)
	around := []rule{ruleOf(w.schema.Types[0].Name)}
	for i := range l[:w.To] {
		t := &l[i]
		switch {
		case t.Kind == api.TokOpen:
			around = append(around, ruleOf(t.Type))
		case t.Kind == api.TokClose:
			around = around[:len(around)-1]
		case i < w.From || t.Kind == api.TokLeaf && !ruleOf(t.Type).inline:
			continue
		case i > w.From && oneText(w.row[i-1], w.row[i]):
			t.Marks = l[i-1].Marks
		default:
			t.Marks = comes(around[len(around)-1], t.Marks)
		}
	}
	return l, api.OK
}

// oneText tells whether a and b, side by side, are bytes of one text: what comes of one's Marks comes of the other's.
func oneText(a, b api.Token) bool {
	return a.Kind == api.TokChar && b.Kind == api.TokChar && mark.Compare(a.Marks, b.Marks) == 0
}

// marksOf is s without all types that each schema need not have: marks are added token by token, and each time all of a schema is looked through.
func marksOf(s api.Schema) api.Schema {
	return api.Schema{Types: []api.NodeType{{Name: s.Types[0].Name}, {Name: "text", Inline: true}}, Marks: s.Marks}
}
