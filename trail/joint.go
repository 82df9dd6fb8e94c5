package trail

import (
	"slices"

	"copydesk/api"
	"copydesk/step"
)

// joint is a step, and what is put together with it. The others' tokens wait in pieces beside its Mid: in one list, all of them would be copied anew for each step that comes.
type joint struct {
	api.Step
	ahead  [][]api.Token // the last one stands first
	behind [][]api.Token
	tokens int // of all pieces, Mid aside
}

// take puts t, which stands behind j, together with it, and tells whether that can be.
func (j *joint) take(t api.Step) bool {
	if j.Kind != t.Kind {
		return false
	}
	switch j.Kind {
	case api.StepPut:
		return j.put(t)
	case api.StepMark, api.StepBare:
		return j.mark(t)
	case api.StepAttr:
		return j.attr(t)
	}
	return false
}

func (j *joint) put(t api.Step) bool {
	from, to := j.From, j.To
	switch {
	case t.From == j.From+len(j.Mid)+j.tokens:
		j.behind = append(j.behind, t.Mid)
		to += t.To - t.From
	case t.To == j.From:
		j.ahead = append(j.ahead, t.Mid)
		from = t.From
	default:
		return false
	}
	j.tokens += len(t.Mid)
	j.Step = api.Step{Kind: j.Kind, From: from, To: to, Mid: j.Mid}
	return true
}

func (j *joint) mark(t api.Step) bool {
	if !sameMark(j.Step, t) || j.From > t.To || t.From > j.To {
		return false
	}
	j.Step = api.Step{Kind: j.Kind, From: min(j.From, t.From), To: max(j.To, t.To), Mark: j.Mark}
	return true
}

func (j *joint) attr(t api.Step) bool {
	if j.From != t.From || j.Name != t.Name {
		return false
	}
	j.Step = t
	return true
}

// whole answers the step that j is, in memory of its own.
func (j joint) whole() api.Step {
	pieces := slices.Clone(j.ahead)
	slices.Reverse(pieces)
	pieces = append(pieces, j.Mid)
	pieces = append(pieces, j.behind...)
	j.Mid = slices.Concat(pieces...)
	return step.Copy(j.Step)
}

// sameMark tells whether a and b have the same Mark, whatever else they have.
func sameMark(a, b api.Step) bool {
	return step.Same(api.Step{Mark: a.Mark}, api.Step{Mark: b.Mark})
}
