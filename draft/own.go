package draft

import (
	"slices"

	"copydesk/api"
)

// made tells whether New made d.
func (d *Draft) made() bool {
	return d != nil && d.self == d
}

// logged answers t as one's own step of that serial number.
func (d *Draft) logged(serial uint64, t api.Step) api.Logged {
	return api.Logged{Client: d.client, Serial: serial, Step: t}
}

// upTo answers most, which may be any number, as a number of what is not confirmed.
func (d *Draft) upTo(most int) int {
	return min(max(most, 0), len(d.own))
}

// steps are those of l, their lists those of l.
func steps(l []api.Logged) []api.Step {
	var all []api.Step
	for _, c := range l {
		all = append(all, c.Step)
	}
	return all
}

// copied answers s, in memory of its own.
func copied(s api.Schema) api.Schema {
	s.Types = slices.Clone(s.Types)
	for i, t := range s.Types {
		t.Groups = slices.Clone(t.Groups)
		t.Attrs = slices.Clone(t.Attrs)
		t.Marks = slices.Clone(t.Marks)
		s.Types[i] = t
	}
	s.Marks = slices.Clone(s.Marks)
	for i, m := range s.Marks {
		m.Excludes = slices.Clone(m.Excludes)
		m.Attrs = slices.Clone(m.Attrs)
		s.Marks[i] = m
	}
	return s
}
