package node_test

import (
	"reflect"
	"slices"
	"testing"

	"copydesk/api"
	"copydesk/node"
)

// What is handed in, and what is answered (Rules, 3, 4, 6).

// roomy is l with more behind it that none of it may tell.
func roomy[T any](l []T, more ...T) []T {
	return append(append(make([]T, 0, len(l)+len(more)), l...), more...)[:len(l)]
}

// spacious is n with wrong things in all spare room.
func spacious(n api.Node) api.Node {
	n.Attrs = roomy(n.Attrs, api.Attr{Name: "zz", Value: "\n"}, api.Attr{Name: name17})
	n.Marks = roomy(n.Marks, api.Mark{Type: "zz"}, api.Mark{Type: "em"})
	for i := range n.Marks {
		n.Marks[i].Attrs = roomy(n.Marks[i].Attrs, api.Attr{Name: "zz", Value: "\n"})
	}
	n.Kids = roomy(n.Kids, api.Node{Type: "zz"}, api.Node{Type: "text", Text: "a"})
	for i := range n.Kids {
		n.Kids[i] = spacious(n.Kids[i])
	}
	return n
}

func spaciousSchema(s api.Schema) api.Schema {
	for i, t := range s.Types {
		s.Types[i].Attrs = roomy(t.Attrs, api.AttrSpec{Name: "zz"})
		s.Types[i].Groups = roomy(t.Groups, "em", "zz")
		s.Types[i].Marks = roomy(t.Marks, "em", "zz")
	}
	for i, m := range s.Marks {
		s.Marks[i].Attrs = roomy(m.Attrs, api.AttrSpec{Name: "zz"}, api.AttrSpec{Name: name17})
		s.Marks[i].Excludes = roomy(m.Excludes, "b", "zz")
	}
	s.Types = roomy(s.Types, api.NodeType{Name: "zz"})
	s.Marks = roomy(s.Marks, api.MarkType{Name: "zz"}, api.MarkType{Name: "zz"})
	return s
}

// full is v with all lists within it as long as their room is.
func full(v reflect.Value) any {
	switch v.Kind() {
	case reflect.Slice:
		all := []any{}
		for i := range v.Cap() {
			all = append(all, full(v.Slice(0, v.Cap()).Index(i)))
		}
		return all
	case reflect.Struct:
		all := []any{}
		for i := range v.NumField() {
			all = append(all, full(v.Field(i)))
		}
		return all
	}
	return v.Interface()
}

// room is memory of a list, from its first byte to the one behind its last.
type room struct {
	from, to uintptr
}

// rooms are those of all lists within v, their spare room too.
func rooms(v reflect.Value) []room {
	var all []room
	switch v.Kind() {
	case reflect.Slice:
		if size := uintptr(v.Cap()) * v.Type().Elem().Size(); size > 0 {
			all = append(all, room{v.Pointer(), v.Pointer() + size})
		}
		for i := range v.Len() {
			all = append(all, rooms(v.Index(i))...)
		}
	case reflect.Struct:
		for i := range v.NumField() {
			all = append(all, rooms(v.Field(i))...)
		}
	}
	return all
}

// apart tells whether no two lists within all of these share memory.
func apart(values ...any) bool {
	all := rooms(reflect.ValueOf(values[0]))
	for _, v := range values[1:] {
		all = append(all, rooms(reflect.ValueOf(v))...)
	}
	slices.SortFunc(all, func(a, b room) int { return int(a.from) - int(b.from) })
	for i := 1; i < len(all); i++ {
		if all[i].from < all[i-1].to {
			return false
		}
	}
	return true
}

// answers are all nodes that the calls answer for s and n.
func answers(s api.Schema, n api.Node) []any {
	node.Check(s, n)
	node.Document(s, n)
	node.Size(s, n)
	node.Deep(n)
	node.Same(n, n)
	node.Words(n)
	formed := node.Form(n.Kids)
	fewest, _ := node.Fewest(s, n.Type)
	top, _ := node.Top(s)
	return []any{formed, fewest, top, node.Copy(n)}
}

func tellings(l []shape) []string {
	var all []string
	for _, x := range l {
		all = append(all, x.node)
	}
	return append(all, "zz[a=1,a=2]^x[b=1]^y('a'[c=1]^em[d=1](p) 'b'[e=1]^em[d=1](p) ''[f=1](p) p[g=1](''(p) 'c'^em 'd'^em))", "rows[kind=1](row)", "top(sec)")
}

func TestWhatIsHandedInStays(t *testing.T) {
	for i, l := range [][]string{tellings(shapes()), tellings(bookShapes())} {
		plain := []func() api.Schema{pages, books}[i]
		for _, one := range l {
			s, n := spaciousSchema(plain()), spacious(tree(one))
			if got := answers(s, n); !apart(append(got, s, n)...) {
				t.Errorf("%s: answers share memory", one)
			}
			if !reflect.DeepEqual(full(reflect.ValueOf(n)), full(reflect.ValueOf(spacious(tree(one))))) {
				t.Errorf("%s: now %s", one, shown(n))
			}
			if !reflect.DeepEqual(full(reflect.ValueOf(s)), full(reflect.ValueOf(spaciousSchema(plain())))) {
				t.Errorf("%s: the schema is another one", one)
			}
		}
	}
}

func TestSpareRoomIsNotRead(t *testing.T) {
	for i, l := range [][]string{tellings(shapes()), tellings(bookShapes())} {
		plain := []api.Schema{pages(), books()}[i]
		s := spaciousSchema([]api.Schema{pages(), books()}[i])
		for _, one := range l {
			n := tree(one)
			room := spacious(n)
			if node.Check(s, room) != node.Check(plain, n) || node.Document(s, room) != node.Document(plain, n) || node.Size(s, room) != node.Size(plain, n) {
				t.Errorf("%s: another one by its spare room", one)
			}
			if node.Deep(room) != node.Deep(n) || !node.Same(room, n) || node.Words(room) != node.Words(n) || !alike(node.Copy(room), n) {
				t.Errorf("%s: another one by its spare room", one)
			}
			if !allAlike(node.Form(room.Kids), node.Form(n.Kids)) {
				t.Errorf("%s: another form by its spare room", one)
			}
		}
	}
}

// Nothing that is put into an answer, its spare room too, is seen in what was handed in, or in another answer.
func TestAnswersAreNewMemory(t *testing.T) {
	for i, l := range [][]string{tellings(shapes()), tellings(bookShapes())} {
		s := []api.Schema{pages(), books()}[i]
		for _, one := range l {
			n := tree(one)
			first, second := answers(s, n), answers(s, n)
			for _, a := range first {
				spoil(reflect.ValueOf(a))
			}
			if !alike(n, tree(one)) || !reflect.DeepEqual(second, answers(s, n)) {
				t.Errorf("%s: now %s", one, shown(n))
			}
		}
	}
}

// spoil overwrites all lists within v, and their spare room.
func spoil(v reflect.Value) {
	switch v.Kind() {
	case reflect.Slice:
		for i := range v.Len() {
			spoil(v.Index(i))
		}
		v.Slice(0, v.Cap()).Clear()
	case reflect.Struct:
		for i := range v.NumField() {
			spoil(v.Field(i))
		}
	}
}

// A node that stands several times in what is handed in is as many nodes in what is answered.
func TestNodesThatAreOne(t *testing.T) {
	p := tree("p[x=1]^em[a=1]('a'^em[b=1])")
	n := doc(p, p, doc(p, p))
	n.Kids[2].Kids = n.Kids[:2]
	if got := node.Copy(n); !apart(got, p) || !alike(got, n) {
		t.Errorf("Copy: %s", shown(got))
	}
	if got := node.Form(n.Kids); !apart(got, p) || !allAlike(got, n.Kids) {
		t.Errorf("Form: %s", shownAll(got))
	}
	if got, e := node.Fewest(books(), "rows"); e != ok || !apart(got) {
		t.Errorf("Fewest: %s", shown(got))
	}
	if got, e := node.Fewest(may(t, small("a:b{3}", "b: ; x=1 y=2")), "a"); e != ok || !apart(got) {
		t.Errorf("Fewest: %s", shown(got))
	}
}

func TestNilAndEmptyAreTheSame(t *testing.T) {
	empty := func(n api.Node) api.Node {
		var fill func(n api.Node) api.Node
		fill = func(n api.Node) api.Node {
			n.Attrs, n.Marks = append([]api.Attr{}, n.Attrs...), append([]api.Mark{}, n.Marks...)
			for i := range n.Marks {
				n.Marks[i].Attrs = append([]api.Attr{}, n.Marks[i].Attrs...)
			}
			kids := []api.Node{}
			for _, kid := range n.Kids {
				kids = append(kids, fill(kid))
			}
			n.Kids = kids
			return n
		}
		return fill(n)
	}
	for _, x := range shapes() {
		a, b := tree(x.node), empty(tree(x.node))
		if node.Check(pages(), b) != x.check || node.Document(pages(), b) != x.document || !node.Same(a, b) || !node.Same(b, a) {
			t.Errorf("%s is another one with empty lists", x.node)
		}
		if node.Size(pages(), b) != node.Size(pages(), a) || node.Deep(b) != node.Deep(a) || !node.Same(node.Copy(b), node.Copy(a)) || !allAlike(node.Form(b.Kids), node.Form(a.Kids)) {
			t.Errorf("%s is another one with empty lists", x.node)
		}
	}
	if len(node.Form(nil)) != 0 || len(node.Form([]api.Node{})) != 0 || len(node.Form(forest("'' ''"))) != 0 {
		t.Error("Form of nothing")
	}
}
