package trail

import (
	"iter"

	"copydesk/api"
	"copydesk/node"
	"copydesk/step"
)

// mayBegin answers node.Document's error of n; ErrLong, if l has too many steps.
func mayBegin(s api.Schema, n api.Node, l []api.Step) api.Errno {
	if e := node.Document(s, n); e != api.OK {
		return e
	}
	if len(l) > api.MaxTrail {
		return api.ErrLong
	}
	return api.OK
}

// documents yields what comes of n behind each step of l, with that step's error. Whoever is told one breaks off: there is no document to go on from.
func documents(s api.Schema, n api.Node, l []api.Step) iter.Seq2[api.Node, api.Errno] {
	return func(yield func(api.Node, api.Errno) bool) {
		now := n
		for _, t := range l {
			next, e := step.Do(s, now, t)
			if !yield(next, e) {
				return
			}
			now = next
		}
	}
}
