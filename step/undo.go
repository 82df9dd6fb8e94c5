package step

import (
	"slices"

	"copydesk/api"
	"copydesk/attr"
)

func (w work) unput() api.Step {
	return api.Step{Kind: api.StepPut, From: w.From, To: w.From + len(w.Mid), Mid: cut(w.row, w.From, w.To)}
}

func (w work) unwrap() api.Step {
	gap := w.From + w.Insert
	end := gap + w.End - w.Gap
	return api.Step{
		Kind: api.StepWrap, From: w.From, To: w.From + len(w.Mid) + w.End - w.Gap, Gap: gap, End: end, Insert: w.Gap - w.From,
		Mid: slices.Concat(cut(w.row, w.From, w.Gap), cut(w.row, w.End, w.To)),
	}
}

func (w work) unattr() api.Step {
	value, _ := attr.Get(w.row[w.From].Attrs, w.Name)
	return api.Step{Kind: api.StepAttr, From: w.From, Name: w.Name, Value: value}
}

// unswap undoes all that Marks alone become others by.
func (w work) unswap() api.Step {
	return api.Step{Kind: api.StepSwap, From: w.From, To: w.To, Mid: cut(w.row, w.From, w.To)}
}
