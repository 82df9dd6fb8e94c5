package draft

import (
	"slices"

	"copydesk/api"
	"copydesk/rebase"
	"copydesk/step"
)

// confirmed is the document that all have at a version.
type confirmed struct {
	version int
	base    api.Node
}

// goOn does t to the document; with an error nothing is done.
func (c *confirmed) goOn(s api.Schema, t api.Step) api.Errno {
	base, e := step.Do(s, c.base, t)
	if e != api.OK {
		return e
	}
	c.version++
	c.base = base
	return api.OK
}

// come does what a confirmed step does to d, which is somebody's copy: with an error it may be done by half.
func (d *Draft) come(c api.Logged) api.Errno {
	if c.Client == d.client {
		return d.confirm(c)
	}
	return d.follow(c.Step)
}

// confirm takes c, which is one's own, from what is not confirmed; ErrBad, if it is not the first of these.
func (d *Draft) confirm(c api.Logged) api.Errno {
	if len(d.own) == 0 || d.own[0].Serial != c.Serial || !step.Same(d.own[0].Step, c.Step) {
		return api.ErrBad
	}
	d.own = slices.Clone(d.own[1:])
	return d.goOn(d.schema, c.Step)
}

// follow puts one's own steps behind t, another one's.
func (d *Draft) follow(t api.Step) api.Errno {
	ahead := d.base
	if e := d.goOn(d.schema, t); e != api.OK {
		return e
	}
	if len(d.own) == 0 {
		d.now = d.base
		return api.OK
	}
	r, e := rebase.Rebase(d.schema, ahead, steps(d.own), []api.Step{t})
	if e != api.OK {
		return e
	}
	for _, i := range r.Dropped {
		d.dropped = append(d.dropped, d.own[i].Serial)
	}
	var own []api.Logged
	for k, i := range r.Kept {
		own = append(own, d.logged(d.own[i].Serial, r.Steps[k]))
	}
	d.own, d.now = own, r.Doc
	return api.OK
}
