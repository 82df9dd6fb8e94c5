package step

import (
	"copydesk/api"
)

// change is a step. Each table has a method for each Kind, and ahead of these what holds where a Kind is none.
type change struct {
	api.Step
}

// by answers what table has of that kind.
func by[F any](table []F, kind int) F {
	if kind < 0 || kind >= len(table) {
		kind = 0
	}
	return table[kind]
}

// laws tell whether a change may be, by what its kind has and what it does not have.
func laws() []func(change, api.Schema) bool {
	return []func(change, api.Schema) bool{
		change.mayNot,
		api.StepPut:  change.mayPut,
		api.StepWrap: change.mayWrap,
		api.StepMark: change.mayMark,
		api.StepBare: change.mayMark,
		api.StepAttr: change.mayAttr,
		api.StepSwap: change.maySwap,
	}
}

// deeds answer the row that comes of a change that may be: its Kind is never none.
func deeds() []func(work) ([]api.Token, api.Errno) {
	return []func(work) ([]api.Token, api.Errno){
		api.StepPut:  work.put,
		api.StepWrap: work.wrap,
		api.StepMark: work.mark,
		api.StepBare: work.bare,
		api.StepAttr: work.attr,
		api.StepSwap: work.swap,
	}
}

// undoings answer the step that brings back the row as it was ahead of a change that was done: its Kind is never none.
func undoings() []func(work) api.Step {
	return []func(work) api.Step{
		api.StepPut:  work.unput,
		api.StepWrap: work.unwrap,
		api.StepMark: work.unswap,
		api.StepBare: work.unswap,
		api.StepAttr: work.unattr,
		api.StepSwap: work.unswap,
	}
}

// tellings answer the map of a change.
func tellings() []func(change) []api.Range {
	return []func(change) []api.Range{
		change.still,
		api.StepPut:  change.whole,
		api.StepWrap: change.around,
		api.StepMark: change.still,
		api.StepBare: change.still,
		api.StepAttr: change.still,
		api.StepSwap: change.still,
	}
}

// moves take a change through a chain, and tell whether something is left of it. What holds of all Kinds but one holds where a Kind is none, too.
func moves() []func(*way) bool {
	return []func(*way) bool{
		(*way).put,
		api.StepPut:  (*way).put,
		api.StepWrap: (*way).wrap,
		api.StepMark: (*way).mark,
		api.StepBare: (*way).mark,
		api.StepAttr: (*way).attr,
		api.StepSwap: (*way).swap,
	}
}
