package node

import (
	"slices"

	"copydesk/api"
	"copydesk/attr"
	"copydesk/mark"
	"copydesk/match"
	"copydesk/schema"
)

// law tells which nodes may be by a schema, however deep and great they are.
type law struct {
	rule  func(typ string) rule
	marks api.Schema // what sets of marks hang on, and no more
}

// rule is what holds for nodes of a type; of one that is none it has a machine without states, which nothing fits.
type rule struct {
	attrs []api.AttrSpec
	auto  api.Auto
}

// open answers the law of s, which may be.
func open(s api.Schema) law {
	return law{rule: once(func(typ string) rule { return ruleOf(s, typ) }), marks: bare(s)}
}

func ruleOf(s api.Schema, typ string) rule {
	t, _ := schema.Type(s, typ)
	a, _ := schema.Auto(s, typ)
	return rule{attrs: t.Attrs, auto: a}
}

// bare is s, whose types hold and have nothing: marks are asked for node by node, and each time all of a schema is looked through.
func bare(s api.Schema) api.Schema {
	b := api.Schema{Marks: s.Marks}
	for _, t := range s.Types {
		b.Types = append(b.Types, api.NodeType{Name: t.Name, Inline: t.Inline, Marks: t.Marks})
	}
	return b
}

// allows tells whether n may be.
func (l law) allows(n api.Node) bool {
	var may func(n api.Node) bool
	may = func(n api.Node) bool {
		foreign := func(kid api.Node) bool { return !l.standsIn(n.Type, kid) || !may(kid) }
		return l.single(n) && l.holds(n) && !slices.ContainsFunc(n.Kids, foreign)
	}
	return may(n)
}

// single tells whether n may be, its Kids aside.
func (l law) single(n api.Node) bool {
	if !attr.Fits(l.rule(n.Type).attrs, n.Attrs) || !worded(n) {
		return false
	}
	return len(n.Marks) == 0 || mark.Check(l.marks, n.Marks) == api.OK
}

// worded tells whether n has a Text where it must, and none where it may not.
func worded(n api.Node) bool {
	if n.Type != text {
		return n.Text == ""
	}
	for _, c := range []byte(n.Text) {
		if c < ' ' || c > '~' {
			return false
		}
	}
	return n.Text != ""
}

// holds tells whether the Kids of n may stand there as a row.
func (l law) holds(n api.Node) bool {
	types := make([]string, 0, len(n.Kids))
	for i, kid := range n.Kids {
		if i > 0 && joins(n.Kids[i-1], kid) {
			return false
		}
		types = append(types, kid.Type)
	}
	return match.Fits(l.rule(n.Type).auto, types)
}

// standsIn tells whether a node of the type typ allows the Marks of its Kid.
func (l law) standsIn(typ string, kid api.Node) bool {
	return len(kid.Marks) == 0 || mark.Allowed(l.marks, typ, kid.Marks)
}

// joins tells whether b, behind a, is one text with it.
func joins(a, b api.Node) bool {
	return a.Type == text && b.Type == text && mark.Compare(a.Marks, b.Marks) == 0
}
