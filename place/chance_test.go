package place_test

import (
	"math/rand"
	"slices"
	"testing"

	"copydesk/api"
	"copydesk/match"
	"copydesk/node"
	"copydesk/place"
	"copydesk/row"
	"copydesk/schema"
)

// whole is a node of the type typ by chance, that may be (where it is not too deep).
func whole(r *rand.Rand, s api.Schema, typ string, deep int) api.Node {
	t, _ := typeOf(s, typ)
	n := api.Node{Type: typ, Attrs: attrsBy(r, t.Attrs)}
	if typ == "text" {
		for range 1 + r.Intn(3) {
			n.Text += string(rune(' ' + r.Intn(95)))
		}
		return n
	}
	a, _ := schema.Auto(s, typ)
	made := schema.Made(s)
	for state := 0; ; {
		if a.States[state].Ends && (r.Intn(4) == 0 || len(a.States[state].Edges) == 0 || deep > 3) {
			return n
		}
		next := a.States[state].Edges[r.Intn(len(a.States[state].Edges))]
		if fill, ok := match.Fill(a, state, nil, made); deep > 2 && ok && len(fill) > 0 {
			next = api.Edge{Type: fill[0], To: match.Next(a, state, fill[0])}
		}
		kid := whole(r, s, next.Type, deep+1)
		kid.Marks = marked(r, s, t.Marks)
		if len(n.Kids) > 0 && kid.Type == "text" && n.Kids[len(n.Kids)-1].Type == "text" && slices.EqualFunc(n.Kids[len(n.Kids)-1].Marks, kid.Marks, sameMark) {
			continue
		}
		n.Kids = append(n.Kids, kid)
		state = next.To
	}
}

// attrsBy are attributes that fit specs.
func attrsBy(r *rand.Rand, specs []api.AttrSpec) []api.Attr {
	var l []api.Attr
	for _, a := range specs {
		l = append(l, api.Attr{Name: a.Name, Value: list("a b 1 ~")[r.Intn(4)]})
	}
	return l
}

// marked are a set of marks, of types that are allowed.
func marked(r *rand.Rand, s api.Schema, allowed []string) []api.Mark {
	var l []api.Mark
	for _, m := range s.Marks {
		none := func(one api.Mark) bool {
			t := s.Marks[slices.IndexFunc(s.Marks, func(t api.MarkType) bool { return t.Name == one.Type })]
			return slices.Contains(m.Excludes, one.Type) || slices.Contains(t.Excludes, m.Name)
		}
		if r.Intn(4) == 0 && slices.Contains(allowed, m.Name) && !slices.ContainsFunc(l, none) {
			l = append(l, api.Mark{Type: m.Name, Attrs: attrsBy(r, m.Attrs)})
		}
	}
	return l
}

// broken is n with something else somewhere.
func broken(r *rand.Rand, s api.Schema, n api.Node) api.Node {
	n = node.Copy(n)
	at := &n
	for len(at.Kids) > 0 && r.Intn(4) > 0 {
		at = &at.Kids[r.Intn(len(at.Kids))]
	}
	switch r.Intn(6) {
	case 0:
		at.Type = s.Types[r.Intn(len(s.Types))].Name
	case 1:
		at.Text = list("a bc \x1f")[r.Intn(3)]
	case 2:
		at.Marks = append(at.Marks, api.Mark{Type: s.Marks[r.Intn(len(s.Marks))].Name})
	case 3:
		at.Kids = append(at.Kids, node.Copy(api.Node{Kids: at.Kids}).Kids...)
	case 4:
		at.Kids = nil
	case 5:
		at.Attrs = append(at.Attrs, api.Attr{Name: "level"})
	}
	return n
}

func TestByChance(t *testing.T) {
	t.Parallel()
	for i, s := range []api.Schema{pages(), books(), letters()} {
		t.Run(s.Types[1].Name, func(t *testing.T) {
			t.Parallel()
			byChance(t, s, rand.New(rand.NewSource(int64(i))))
		})
	}
}

// byChance asks the calls about documents of s, and about such as were broken.
func byChance(t *testing.T, s api.Schema, r *rand.Rand) {
	found := map[api.Errno]int{}
	for range 100 {
		n := whole(r, s, s.Types[0].Name, 0)
		for range r.Intn(3) {
			n = broken(r, s, n)
		}
		e := node.Document(s, n)
		found[e]++
		if e != ok {
			wrongAt(t, s, n, r.Intn(8), e)
			wrong(t, s, n, r.Intn(8), r.Intn(8), e)
			continue
		}
		here(t, s, n, r)
	}
	for _, e := range []api.Errno{ok, shape} {
		if found[e] < 20 {
			t.Errorf("%d documents with the error %d", found[e], e)
		}
	}
}

// here fails unless all calls answer of the document n, at some places by chance, as the words say, and as what follows says.
func here(t *testing.T, s api.Schema, n api.Node, r *rand.Rand) {
	t.Helper()
	all, inline, l := stretches(s, n), holding(s), tokensOf(t, s, n)
	for range 8 {
		from, to := r.Intn(len(l)+3)-1, r.Intn(len(l)+3)-1
		oneAsTold(t, s, n, all, from)
		pairAsTold(t, s, n, all, inline, from, to)
		if 0 <= from && from <= len(l) {
			wayHasItsDepth(t, s, n, l, from)
			pieces(t, s, n, l, from)
		}
	}
	wordsIs(t, s, n, 0, len(l), node.Words(n), ok)
}

// pieces fails unless the calls agree with one another on what is there at the place at, and ahead of it.
func pieces(t *testing.T, s api.Schema, n api.Node, l []api.Token, at int) {
	t.Helper()
	first, _ := place.Words(s, n, 0, at)
	last, _ := place.Words(s, n, at, len(l))
	if first+last != node.Words(n) {
		t.Errorf("Words of %s up to %d, and behind: %q, %q", told(n), at, first, last)
	}
	one, there := place.At(s, n, at)
	if begins := at < len(l) && l[at].Kind != api.TokClose; there != begins || there && l[at].Kind != api.TokChar && one.Type != l[at].Type {
		t.Errorf("At of %s at %d: %s, %t", told(n), at, told(one), there)
	}
	spots, _ := place.Find(s, n, at)
	from, to, _ := place.Ends(s, n, at)
	if from != spots[len(spots)-1].Start || from > at || at > to {
		t.Errorf("Ends of %s at %d: %d, %d, and the way to it %s", told(n), at, from, to, shownWay(spots))
	}
	// What is around a place are the nodes on the way to it, and the text that it lies in.
	around, _ := place.Between(s, n, at, at)
	if inside := spots[len(spots)-1].Inside; inside && len(around) != len(spots) || !inside && len(around) != len(spots)-1 {
		t.Errorf("Between of %s from %d to %d: %s, and the way to it %s", told(n), at, at, shownSeen(around), shownWay(spots))
	}
}

// rows are all rows of up to so many of these tokens.
func rows(some []api.Token, most int) [][]api.Token {
	all := [][]api.Token{nil}
	for i := 0; i < len(all); i++ {
		for _, t := range some {
			if len(all[i]) < most {
				all = append(all, append(slices.Clone(all[i]), t))
			}
		}
	}
	return all
}

// All documents of up to so many tokens, at all places.
func TestAllDocuments(t *testing.T) {
	t.Parallel()
	em := []api.Mark{{Type: "em"}}
	begin := func(typ string) api.Token { return api.Token{Kind: api.TokOpen, Type: typ} }
	end := api.Token{Kind: api.TokClose}
	leaf := func(typ string) api.Token { return api.Token{Kind: api.TokLeaf, Type: typ} }
	char := func(marks []api.Mark) api.Token { return api.Token{Kind: api.TokChar, Marks: marks, Char: 'a'} }
	for _, x := range []struct {
		name   string
		s      api.Schema
		tokens []api.Token
		most   int
		found  int
	}{
		{"pages", pages(), []api.Token{begin("p"), end, leaf("hr"), char(nil), char(em)}, 5, 50},
		{"items", pages(), []api.Token{begin("p"), begin("li"), end, char(nil)}, 7, 30},
		{"letters", letters(), []api.Token{begin("note"), end, char(nil), char(em)}, 4, 60},
	} {
		t.Run(x.name, func(t *testing.T) {
			t.Parallel()
			found := 0
			for _, l := range rows(x.tokens, x.most) {
				if closes, opens := row.Left(l); closes+opens > 0 {
					continue
				}
				if n, e := row.Make(x.s, l); e == ok {
					found++
					asTold(t, x.s, n)
				}
			}
			if found < x.found {
				t.Errorf("%d documents", found)
			}
		})
	}
}

// read makes a document of bytes, each of which tells a node within the last one that is open, ends that, or changes the last Kid.
func read(s api.Schema, text string) api.Node {
	open := []api.Node{{Type: s.Types[0].Name}}
	shut := func() {
		last := open[len(open)-1]
		open = open[:len(open)-1]
		open[len(open)-1].Kids = append(open[len(open)-1].Kids, last)
	}
	for _, c := range []byte(text) {
		k := int(c) / 16
		typ := s.Types[k%len(s.Types)]
		one := api.Node{Type: typ.Name, Attrs: attrsBy(rand.New(rand.NewSource(int64(k))), typ.Attrs)}
		up := &open[len(open)-1]
		switch m := s.Marks[k%len(s.Marks)]; c % 16 {
		case 0, 1, 2, 3:
			open = append(open, one)
		case 4, 5, 6, 7:
			if len(open) > 1 {
				shut()
			}
		case 8, 9:
			up.Kids = append(up.Kids, one)
		case 10, 11, 12:
			up.Kids = append(up.Kids, api.Node{Type: "text", Text: "abcdefghijklmnop"[:k+1]})
		case 13, 14:
			if len(up.Kids) > 0 {
				last := &up.Kids[len(up.Kids)-1]
				last.Marks = append(last.Marks, api.Mark{Type: m.Name, Attrs: attrsBy(rand.New(rand.NewSource(1)), m.Attrs)})
			}
		case 15:
			up.Text = list("a \x1f")[k%2]
		}
	}
	for len(open) > 1 {
		shut()
	}
	return open[0]
}

func FuzzFind(f *testing.F) {
	f.Add("", 0, 0, 0)
	f.Add("\x10\x0a\x2a\x0d\x04\x48", 2, 5, 0)
	f.Add("\x30\x10\x1a\x04\x30\x10\x04\x48\x04\x04\x10", 6, 9, 0)
	f.Add("\x10\x10\x20\x2a\x6a\x2d\x78\x70\x20\x0a\x04\x04", 4, 12, 1)
	f.Add("\x2a\x10\x1a\x10\x0d\x2a\x0d\x04\x04\x28", 3, 8, 2)
	f.Fuzz(func(t *testing.T, text string, from, to, which int) {
		s := []api.Schema{pages(), books(), letters()}[uint(which)%3]
		n := read(s, text)
		if e := node.Document(s, n); e != ok {
			wrongAt(t, s, n, from, e)
			wrong(t, s, n, from, to, e)
			return
		}
		all := stretches(s, n)
		oneAsTold(t, s, n, all, from)
		pairAsTold(t, s, n, all, holding(s), from, to)
		oneAsTold(t, s, n, all, to)
	})
}
