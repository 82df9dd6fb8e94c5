package node

import (
	"copydesk/api"
	"copydesk/attr"
	"copydesk/schema"
)

// Fewest answers the fewest of the type typ: it has the Defaults of its Attrs, and the fewest Kids that it needs.
func Fewest(s api.Schema, typ string) (api.Node, api.Errno) {
	if e := schema.Check(s); e != api.OK {
		return api.Node{}, e
	}
	return fewest(s, typ)
}

// Top answers the fewest of the top.
func Top(s api.Schema) (api.Node, api.Errno) {
	if e := schema.Check(s); e != api.OK {
		return api.Node{}, e
	}
	return fewest(s, s.Types[0].Name)
}

// need is what the fewest of a type has.
type need struct {
	attrs []api.AttrSpec
	kids  []string
	size  int // that of its Kids aside
}

func needOf(s api.Schema, typ string) need {
	t, _ := schema.Type(s, typ)
	kids, _ := schema.Fewest(s, typ)
	return need{attrs: t.Attrs, kids: kids, size: ownSize(s, typ)}
}

// fewest is that of a schema that may be.
func fewest(s api.Schema, typ string) (api.Node, api.Errno) {
	if _, e := schema.Fewest(s, typ); e != api.OK {
		return api.Node{}, e
	}
	needs := once(func(typ string) need { return needOf(s, typ) })
	size := 0
	var grow func(typ string, deep int) (api.Node, bool)
	grow = func(typ string, deep int) (api.Node, bool) {
		has := needs(typ)
		size += has.size
		// This ends what has no end: a type may need itself, where that is shorter than what it can be made of.
		if deep > api.MaxDeep || size > api.MaxDoc {
			return api.Node{}, false
		}
		n := api.Node{Type: typ}
		n.Attrs, _ = attr.Fill(has.attrs, nil)
		for _, name := range has.kids {
			kid, ok := grow(name, deep+1)
			if !ok {
				return api.Node{}, false
			}
			n.Kids = append(n.Kids, kid)
		}
		return n, true
	}
	n, ok := grow(typ, 1)
	if !ok {
		return api.Node{}, api.ErrLong
	}
	return n, api.OK
}
