package node_test

import (
	"math/rand"
	"slices"
	"strings"
	"testing"

	"copydesk/api"
	"copydesk/attr"
	"copydesk/match"
	"copydesk/node"
	"copydesk/schema"
)

// whole is a node of the type typ by chance, that may be (where it is not too deep).
func whole(r *rand.Rand, s api.Schema, typ string, deep int) api.Node {
	t, _ := typeOf(s, typ)
	n := api.Node{Type: typ, Attrs: attrsBy(r, t.Attrs)}
	if typ == "text" {
		n.Text = string(rune(' ' + r.Intn(95)))
		return n
	}
	a, _ := schema.Auto(s, typ)
	made := schema.Made(s)
	for state := 0; ; {
		if a.States[state].Ends && (r.Intn(3) == 0 || len(a.States[state].Edges) == 0 || deep > 3) {
			return n
		}
		next := a.States[state].Edges[r.Intn(len(a.States[state].Edges))]
		if row, ok := match.Fill(a, state, nil, made); deep > 2 && ok && len(row) > 0 {
			next = api.Edge{Type: row[0], To: match.Next(a, state, row[0])}
		}
		kid := whole(r, s, next.Type, deep+1)
		kid.Marks = marked(r, s, t.Marks)
		if len(n.Kids) > 0 && sameText(n.Kids[len(n.Kids)-1], kid) {
			continue
		}
		n.Kids = append(n.Kids, kid)
		state = next.To
	}
}

// attrsBy are attributes that fit specs.
func attrsBy(r *rand.Rand, specs []api.AttrSpec) []api.Attr {
	var l []api.Attr
	for _, a := range specs {
		l = append(l, api.Attr{Name: a.Name, Value: list("a b 1 ~")[r.Intn(4)]})
	}
	return l
}

// marked are a set of marks, of types that are allowed.
func marked(r *rand.Rand, s api.Schema, allowed []string) []api.Mark {
	var l []api.Mark
	for _, m := range s.Marks {
		none := func(one api.Mark) bool {
			t := s.Marks[slices.IndexFunc(s.Marks, func(t api.MarkType) bool { return t.Name == one.Type })]
			return slices.Contains(m.Excludes, one.Type) || slices.Contains(t.Excludes, m.Name)
		}
		if r.Intn(4) == 0 && slices.Contains(allowed, m.Name) && !slices.ContainsFunc(l, none) {
			l = append(l, api.Mark{Type: m.Name, Attrs: attrsBy(r, m.Attrs)})
		}
	}
	return l
}

// broken is n with something else somewhere.
func broken(r *rand.Rand, s api.Schema, n api.Node) api.Node {
	n = node.Copy(n)
	at := nth(&n, r.Intn(count(n)))
	kid := r.Intn(len(at.Kids) + 1)
	switch r.Intn(9) {
	case 0:
		at.Type = s.Types[r.Intn(len(s.Types))].Name
	case 1:
		at.Text = list("a \x1f \x7f ~")[r.Intn(4)]
	case 2:
		at.Text = ""
	case 3:
		at.Attrs = append(at.Attrs, api.Attr{Name: "z"})
	case 4:
		at.Marks = append(at.Marks, api.Mark{Type: s.Marks[r.Intn(len(s.Marks))].Name})
	case 5:
		at.Marks = nil
	case 6:
		at.Kids = slices.Delete(at.Kids, min(kid, len(at.Kids)), min(kid+1, len(at.Kids)))
	case 7:
		at.Kids = slices.Insert(at.Kids, kid, whole(r, s, s.Types[r.Intn(len(s.Types))].Name, 4))
	case 8:
		r.Shuffle(len(at.Kids), func(i, j int) { at.Kids[i], at.Kids[j] = at.Kids[j], at.Kids[i] })
	}
	return n
}

func TestNodesByChance(t *testing.T) {
	r := rand.New(rand.NewSource(7))
	wholes, wrongs := 0, 0
	for i := range 1500 {
		s := []api.Schema{pages(), books()}[i%2]
		n := whole(r, s, s.Types[r.Intn(len(s.Types))].Name, 0)
		if e := node.Check(s, n); e != ok || checkByWords(s, n) != ok {
			t.Fatalf("%s: error %d", shown(n), e)
		}
		for range r.Intn(3) {
			n = broken(r, s, n)
		}
		if asTold(t, s, n) == ok {
			wholes++
			continue
		}
		wrongs++
	}
	if wholes < 350 || wrongs < 350 {
		t.Errorf("%d may be, %d may not", wholes, wrongs)
	}
}

// asTold answers what Check tells of n, and fails unless all calls answer as the words say.
func asTold(t *testing.T, s api.Schema, n api.Node) api.Errno {
	t.Helper()
	held(t, s, n, checkByWords(s, n), documentByWords(s, n))
	if node.Size(s, n) != sizeByWords(s, n) || node.Deep(n) != deepByWords(n) {
		t.Errorf("%s: size %d, deep %d", shown(n), node.Size(s, n), node.Deep(n))
	}
	got, c := node.Form([]api.Node{n}), node.Copy(n)
	if !allAlike(got, formByWords([]api.Node{n})) || !allAlike(node.Form(got), got) {
		t.Errorf("Form of %s: %s", shown(n), shownAll(got))
	}
	e := node.Check(s, n)
	if e == ok && !allAlike(got, []api.Node{n}) {
		t.Errorf("Form of %s, which may be: %s", shown(n), shownAll(got))
	}
	if !alike(c, n) || !node.Same(c, n) {
		t.Errorf("Copy of %s: %s", shown(n), shown(c))
	}
	for _, one := range got {
		if node.Same(one, n) != alike(one, n) || node.Words(one) != node.Words(n) && !lost(n) {
			t.Errorf("%s and %s", shown(n), shown(one))
		}
	}
	if !apart(got, n, c) {
		t.Errorf("%s: answers share memory", shown(n))
	}
	return e
}

// lost tells whether a text of n has Kids, which may go with it.
func lost(n api.Node) bool {
	return n.Type == "text" && len(n.Kids) > 0 || slices.ContainsFunc(n.Kids, lost)
}

// All rows of up to three Kids, in a node of each type.
func TestCheckOfThree(t *testing.T) {
	some := [][]api.Node{
		forest("'a' 'b'^em 'c'^code '' br br^em p li(p) hr zz h[level=1] p^em"),
		forest("'a' 'b'^b img[src=a] foot(par) par row(par) sec head fig[alt=,src=a] par^note[by=x]"),
	}
	for i, s := range []api.Schema{pages(), books()} {
		rows := [][]api.Node{nil}
		for k := 0; k < len(rows); k++ {
			for _, typ := range s.Types {
				n := api.Node{Type: typ.Name, Kids: rows[k]}
				n.Attrs, _ = attr.Fill(typ.Attrs, []api.Attr{{Name: "src"}})
				if n.Attrs == nil {
					n.Attrs, _ = attr.Fill(typ.Attrs, nil)
				}
				if e := node.Check(s, n); e != checkByWords(s, n) {
					t.Errorf("Check of %s: error %d", shown(n), e)
				}
			}
			for _, kid := range some[i] {
				if len(rows[k]) < 3-i {
					rows = append(rows, append(slices.Clone(rows[k]), kid))
				}
			}
		}
	}
}

// read makes a node of bytes, each of which tells what comes next.
func read(s api.Schema, text string) api.Node {
	var types []string
	for _, t := range s.Types {
		types = append(types, t.Name)
	}
	types = append(types, "text", "text", "zz", "")
	stack := []api.Node{{Type: s.Types[0].Name}}
	for _, c := range []byte(text) {
		last := &stack[len(stack)-1]
		switch k := int(c) / 16; c % 16 {
		case 0, 1, 2, 3, 4, 5:
			stack = append(stack, api.Node{Type: types[k%len(types)]})
		case 6, 7, 8:
			if len(stack) > 1 {
				stack = stack[:len(stack)-1]
				up := &stack[len(stack)-1]
				up.Kids = append(up.Kids, *last)
			}
		case 9, 10, 11:
			last.Text += string([]byte{byte(k*9 + 20)})
		case 12, 13:
			m := s.Marks[k%len(s.Marks)]
			one := api.Mark{Type: m.Name}
			one.Attrs, _ = attr.Fill(m.Attrs, []api.Attr{{Name: "href", Value: strings.Repeat("x", k%2)}})
			last.Marks = append(last.Marks, one)
		case 14:
			t, _ := typeOf(s, last.Type)
			last.Attrs = attrsBy(rand.New(rand.NewSource(int64(k))), t.Attrs)
		case 15:
			last.Attrs = append(last.Attrs, api.Attr{Name: list("level src alt zz")[k%4]})
		}
	}
	for len(stack) > 1 {
		last := stack[len(stack)-1]
		stack = stack[:len(stack)-1]
		up := &stack[len(stack)-1]
		up.Kids = append(up.Kids, last)
	}
	return stack[0]
}

func FuzzCheck(f *testing.F) {
	f.Add("", false)
	f.Add("\x10\x60\x49\x4a\x06\x60\x0c\x49\x06", false)
	f.Add("\x21\x31\x70\x49\x06\x70\x49\x2c\x06\x06\x41", true)
	f.Add("\x20\x30\x80\x49\x06\x80\x49\x06\x9f", true)
	f.Fuzz(func(t *testing.T, text string, book bool) {
		s := pages()
		if book {
			s = books()
		}
		asTold(t, s, read(s, text))
	})
}
