package step

import (
	"copydesk/api"
	"copydesk/attr"
	"copydesk/mark"
)

// mayBe tells whether t may be by s, which may be, as Mid may.
func mayBe(s api.Schema, t api.Step) bool {
	for _, n := range []int{t.From, t.To, t.Gap, t.End, t.Insert} {
		if n < 0 || n > api.MaxDoc {
			return false
		}
	}
	return by(laws(), t.Kind)(change{t}, s)
}

func (c change) mayNot(api.Schema) bool {
	return false
}

func (c change) mayPut(api.Schema) bool {
	inOrder := c.From <= c.To
	c.From, c.To, c.Mid = 0, 0, nil
	return inOrder && c.empty()
}

func (c change) mayWrap(api.Schema) bool {
	inOrder := c.From <= c.Gap && c.Gap <= c.End && c.End <= c.To && c.Insert <= len(c.Mid)
	c.From, c.To, c.Gap, c.End, c.Insert, c.Mid = 0, 0, 0, 0, 0, nil
	return inOrder && c.empty()
}

func (c change) mayMark(s api.Schema) bool {
	fits := c.From <= c.To && mark.Fits(s, c.Mark)
	c.From, c.To, c.Mark = 0, 0, api.Mark{}
	return fits && c.empty()
}

func (c change) mayAttr(api.Schema) bool {
	named := attr.Name(c.Name) && attr.Value(c.Value)
	c.From, c.Name, c.Value = 0, "", ""
	return named && c.empty()
}

func (c change) maySwap(api.Schema) bool {
	even := c.To == c.From+len(c.Mid)
	c.From, c.To, c.Mid = 0, 0, nil
	return even && c.empty()
}

// empty tells whether c has nothing but its Kind.
func (c change) empty() bool {
	return Same(c.Step, api.Step{Kind: c.Kind})
}
