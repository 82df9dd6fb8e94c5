package node

import (
	"slices"
	"strings"

	"copydesk/api"
)

// twin is a node that shares no list with the one that it is made of.
type twin struct {
	api.Node
}

// twinOf answers the twin of n with kids, which are handed over to it.
func twinOf(n api.Node, kids []api.Node) twin {
	var t twin
	t.Node = n
	t.Attrs = slices.Clone(n.Attrs)
	t.Marks = slices.Clone(n.Marks)
	for i, m := range n.Marks {
		t.Marks[i].Attrs = slices.Clone(m.Attrs)
	}
	t.Kids = kids
	return t
}

// Copy answers n, in memory of its own.
func Copy(n api.Node) api.Node {
	var copied func(n api.Node) api.Node
	copied = func(n api.Node) api.Node {
		kids := make([]api.Node, 0, len(n.Kids))
		for _, kid := range n.Kids {
			kids = append(kids, copied(kid))
		}
		return twinOf(n, kids).Node
	}
	return copied(n)
}

// Form answers l in one form: no text is without a byte, none is beside another one that has the same Marks; likewise in all Kids.
func Form(l []api.Node) []api.Node {
	var form func(l []api.Node) []api.Node
	form = func(l []api.Node) []api.Node {
		// What has no byte goes first of all: what stood around it may come side by side.
		l = slices.DeleteFunc(slices.Clone(l), void)
		out := make([]api.Node, 0, len(l))
		for len(l) > 0 {
			run := together(l)
			t := twinOf(l[0], form(l[0].Kids))
			t.Text = words(l[:run])
			out = append(out, t.Node)
			l = l[run:]
		}
		return out
	}
	return form(l)
}

// void tells whether n is a text without a byte.
func void(n api.Node) bool {
	return n.Type == text && n.Text == ""
}

// together answers how many of l, from the first one on, are one node.
func together(l []api.Node) int {
	for i := 1; i < len(l); i++ {
		if !joins(l[0], l[i]) {
			return i
		}
	}
	return len(l)
}

// words are the Texts of l, their Kids' aside.
func words(l []api.Node) string {
	var b strings.Builder
	for _, n := range l {
		b.WriteString(n.Text)
	}
	return b.String()
}
