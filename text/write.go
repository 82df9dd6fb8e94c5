package text

import (
	"strings"

	"copydesk/api"
)

// All of this writes whatever it is given: that it may be told is asked ahead.

func writeList(b *strings.Builder, l []api.Node) {
	for i, n := range l {
		if i > 0 {
			b.WriteByte(',')
		}
		writeNode(b, n)
	}
}

func writeNode(b *strings.Builder, n api.Node) {
	if n.Type == text {
		writeQuoted(b, n.Text)
	} else {
		b.WriteString(n.Type)
	}
	writeAttrs(b, n.Attrs)
	for _, m := range n.Marks {
		b.WriteByte('^')
		b.WriteString(m.Type)
		writeAttrs(b, m.Attrs)
	}
	if len(n.Kids) > 0 {
		b.WriteByte('(')
		writeList(b, n.Kids)
		b.WriteByte(')')
	}
}

func writeAttrs(b *strings.Builder, l []api.Attr) {
	if len(l) == 0 {
		return
	}
	sign := byte('{')
	for _, a := range l {
		b.WriteByte(sign)
		b.WriteString(a.Name)
		b.WriteByte('=')
		writeQuoted(b, a.Value)
		sign = ','
	}
	b.WriteByte('}')
}

func writeQuoted(b *strings.Builder, s string) {
	b.WriteByte('"')
	for _, c := range []byte(s) {
		if special(c) {
			b.WriteByte('\\')
		}
		b.WriteByte(c)
	}
	b.WriteByte('"')
}

// special tells whether c stands in quotes only with a sign ahead.
func special(c byte) bool {
	return c == '"' || c == '\\'
}
