package row

import (
	"copydesk/api"
	"copydesk/attr"
	"copydesk/mark"
	"copydesk/schema"
)

// text is the name of the type whose nodes have bytes.
const text = "text"

// law tells which tokens may be by a schema.
type law struct {
	schema api.Schema
	marks  api.Schema // what sets of marks hang on, and no more
	known  map[string]rule
}

// rule is what holds for nodes of a type.
type rule struct {
	kind  int // that of the tokens by which they begin; 0, if none of a row does
	attrs []api.AttrSpec
}

// open answers the law of s, which may be.
func open(s api.Schema) law {
	return law{schema: s, marks: bare(s), known: map[string]rule{}}
}

// bare is s without all types that each schema need not have: marks are asked for token by token, and each time all of a schema is looked through.
func bare(s api.Schema) api.Schema {
	return api.Schema{Types: []api.NodeType{{Name: s.Types[0].Name}, {Name: text, Inline: true}}, Marks: s.Marks}
}

// rule answers that of the type typ, which is looked up once.
func (l law) rule(typ string) rule {
	r, ok := l.known[typ]
	if !ok {
		r = ruleOf(l.schema, typ)
		l.known[typ] = r
	}
	return r
}

func ruleOf(s api.Schema, typ string) rule {
	t, ok := schema.Type(s, typ)
	switch {
	case !ok || typ == s.Types[0].Name:
		return rule{}
	case typ == text:
		return rule{kind: api.TokChar}
	case schema.Leaf(s, typ):
		return rule{kind: api.TokLeaf, attrs: t.Attrs}
	}
	return rule{kind: api.TokOpen, attrs: t.Attrs}
}

// allows tells whether each token of row may be.
func (l law) allows(row []api.Token) bool {
	for i, t := range row {
		if !l.formed(t) {
			return false
		}
		// Texts have the same Marks byte by byte: what was asked for the token ahead need not be asked again.
		known := i > 0 && marked(row[i-1], t)
		if !known && !l.set(t.Marks) {
			return false
		}
	}
	return true
}

// formed tells whether t has what its kind must have, and nothing that it does not have; whether its Marks are a set aside.
func (l law) formed(t api.Token) bool {
	switch t.Kind {
	case api.TokOpen, api.TokLeaf:
		r := l.rule(t.Type)
		return r.kind == t.Kind && attr.Fits(r.attrs, t.Attrs) && t.Char == 0
	case api.TokClose:
		return !typed(t) && len(t.Marks) == 0 && t.Char == 0
	case api.TokChar:
		return !typed(t) && ' ' <= t.Char && t.Char <= '~'
	}
	return false
}

// typed tells whether t has anything that tokens have by their Type.
func typed(t api.Token) bool {
	return t.Type != "" || len(t.Attrs) > 0
}

// set tells whether marks are one.
func (l law) set(marks []api.Mark) bool {
	return len(marks) == 0 || mark.Check(l.marks, marks) == api.OK
}
