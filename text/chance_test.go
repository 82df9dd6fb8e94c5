package text_test

import (
	"math/rand"
	"regexp"
	"strings"
	"testing"

	"copydesk/api"
	"copydesk/text"
)

// P14.3

// some are as many of those bytes as r tells, at most n.
func some(r *rand.Rand, bytes string, n int) string {
	var b strings.Builder
	for range r.Intn(n + 1) {
		b.WriteByte(bytes[r.Intn(len(bytes))])
	}
	return b.String()
}

const plain = "ab \"\\{}()^,=~"

func someName(r *rand.Rand) string {
	if r.Intn(9) == 0 {
		return []string{name16, "text", "texts", "z"}[r.Intn(4)]
	}
	return "n" + some(r, "az", 3)
}

func someAttrs(r *rand.Rand) []api.Attr {
	var l []api.Attr
	for c := byte('a'); len(l) < 8 && r.Intn(5) > 2; c += byte(1 + r.Intn(3)) {
		l = append(l, api.Attr{Name: string([]byte{c}), Value: some(r, plain, 5)})
	}
	return l
}

// someNode is a node by chance that can be told, at most so deep.
func someNode(r *rand.Rand, deep int) api.Node {
	var n api.Node
	for r.Intn(4) == 0 {
		n.Marks = append(n.Marks, api.Mark{Type: someName(r), Attrs: someAttrs(r)})
	}
	if r.Intn(3) == 0 {
		n.Type, n.Text = "text", "x"+some(r, plain, 9)
		return n
	}
	n.Type, n.Attrs = "n"+someName(r)[1:], someAttrs(r)
	if deep > 1 {
		n.Kids = someNodes(r, deep-1)
	}
	return n
}

func someNodes(r *rand.Rand, deep int) []api.Node {
	var l []api.Node
	for range r.Intn(4) {
		l = append(l, someNode(r, deep))
	}
	return l
}

// broken is n, in memory of its own, with something else somewhere.
func broken(r *rand.Rand, n api.Node) api.Node {
	n.Kids = append([]api.Node(nil), n.Kids...)
	if len(n.Kids) > 0 && r.Intn(3) > 0 {
		i := r.Intn(len(n.Kids))
		n.Kids[i] = broken(r, n.Kids[i])
		return n
	}
	switch r.Intn(7) {
	case 0:
		n.Type = []string{"", "P", "text", "p", name17, "p "}[r.Intn(6)]
	case 1:
		n.Text = some(r, plain+"\n\x7f\xe4", 2)
	case 2:
		n.Attrs = append([]api.Attr{{Name: "b", Value: some(r, plain, 70)}}, n.Attrs...)
	case 3:
		n.Attrs = append(append([]api.Attr{}, n.Attrs...), api.Attr{Name: someName(r), Value: some(r, plain+"\n", 3)})
	case 4:
		n.Marks = append(append([]api.Mark{}, n.Marks...), api.Mark{Type: some(r, "az1", 3), Attrs: someAttrs(r)})
	case 5:
		n.Marks = append(append([]api.Mark{}, n.Marks...), api.Mark{Type: "m", Attrs: pairs([]string{some(r, "ab", 2) + "=", some(r, "ab", 2) + "=\t"[:1+r.Intn(2)]})})
	case 6:
		n.Kids = append(n.Kids, tower(of("p"), r.Intn(17)))
	}
	return n
}

// spaced is s, a text, with blanks and line ends where there may be any.
func spaced(r *rand.Rand, s string) string {
	return regexp.MustCompile(`[a-z]+|"(?:[^"\\]|\\.)*"|.`).ReplaceAllStringFunc(s, func(token string) string {
		return some(r, " \n", 2) + token + some(r, " \n", 2)
	})
}

// loose is the text of l, whose nodes are so deep, with {} and () here and there, where there are no Attrs and no Kids.
func loose(r *rand.Rand, l []api.Node, deep int) string {
	braces := func(l []api.Attr) string {
		if len(l) == 0 && r.Intn(2) == 0 {
			return "{}"
		}
		return attrsByWords(l)
	}
	var all []string
	for _, n := range l {
		s := quoteByWords(n.Text)
		if n.Type != "text" {
			s = n.Type + braces(n.Attrs)
		}
		for _, m := range n.Marks {
			s += "^" + m.Type + braces(m.Attrs)
		}
		if len(n.Kids) > 0 || n.Type != "text" && deep < 16 && r.Intn(2) == 0 {
			s += "(" + loose(r, n.Kids, deep+1) + ")"
		}
		all = append(all, s)
	}
	return strings.Join(all, ",")
}

func TestTextsAreReadAgain(t *testing.T) {
	r := rand.New(rand.NewSource(14))
	greatest := 0
	for range 20000 {
		l := someNodes(r, 1+r.Intn(16))
		s, e := asTold(t, l)
		if e != ok {
			t.Fatalf("List of %s: error %d", shown(l), e)
		}
		greatest = max(greatest, len(s))
		for _, other := range []string{spaced(r, s), loose(r, l, 1), spaced(r, loose(r, l, 1))} {
			back, at, e := text.Parse(other)
			if e != ok || at != 0 || !alike(back, l) {
				t.Fatalf("Parse of %q: %s at %d, error %d, want %s", other, shown(back), at, e, shown(l))
			}
			if again, e := text.List(back); again != s || e != ok {
				t.Fatalf("List of Parse of %q: %q, error %d, want %q", other, again, e, s)
			}
		}
	}
	if greatest < 300 {
		t.Errorf("the longest one had %d bytes", greatest)
	}
}

func TestNodesByChance(t *testing.T) {
	r := rand.New(rand.NewSource(15))
	var seen [4]int
	for range 20000 {
		l := someNodes(r, 1+r.Intn(4))
		for i := range l {
			for range r.Intn(3) {
				l[i] = broken(r, l[i])
			}
		}
		_, e := asTold(t, l)
		seen[e]++
	}
	if seen[ok] < 3000 || seen[arg] < 3000 || seen[long] < 100 {
		t.Errorf("errors: %v", seen)
	}
}

// Texts with a byte, or a few, gone, doubled, or another one.
func TestTextsByChance(t *testing.T) {
	r := rand.New(rand.NewSource(16))
	var seen [5]int
	for range 50000 {
		s, _ := text.List(someNodes(r, 1+r.Intn(5)))
		if r.Intn(2) == 0 {
			s = spaced(r, s)
		}
		for range 1 + r.Intn(2) {
			i := r.Intn(len(s) + 1)
			j := min(len(s), i+r.Intn(3))
			switch r.Intn(4) {
			case 0:
				s = s[:i] + s[j:]
			case 1:
				s = s[:j] + s[i:]
			case 2:
				s = s[:i] + some(r, plain+"\n\x00\xff", 2) + s[j:]
			case 3:
				s = s[:i]
			}
		}
		_, e := asParsed(t, s)
		seen[e]++
	}
	if seen[ok] < 5000 || seen[bad] < 20000 {
		t.Errorf("errors: %v", seen)
	}
}

// Each of the greatest lists that can be told is read again.
func TestGreatTextsAreReadAgain(t *testing.T) {
	r := rand.New(rand.NewSource(17))
	for range 5 {
		var l []api.Node
		for size := 0; size < 1<<18-4096; size = len(listByWords(l)) {
			for range 200 {
				l = append(l, someNode(r, 4))
			}
			if len(listByWords(l)) > 1<<18 {
				break
			}
		}
		asTold(t, l)
		asTold(t, []api.Node{of("p", l...)})
	}
	var deep []api.Node
	for range 3000 {
		deep = append(deep, tower(on(words("a\""), "em", "a=b"), 15))
	}
	asTold(t, deep)
}

func FuzzParse(f *testing.F) {
	for s := range tellings() {
		f.Add(s)
	}
	for _, s := range []string{"", "p(", `"a`, `p{b="1",a="2"}`, `""`, "p)", "p,", "text", " p ( \n) ", name17, `"\x"`, `p{a="` + value65 + `"}`, strings.Repeat("p(", 16), `"a"()`, "\x00"} {
		f.Add(s)
	}
	f.Fuzz(func(t *testing.T, s string) {
		l, e := asParsed(t, s)
		if e != ok {
			return
		}
		again, f := asTold(t, l)
		if f != ok || len(again) > len(s) {
			t.Fatalf("List of Parse of %q: %q, error %d", s, again, f)
		}
	})
}
