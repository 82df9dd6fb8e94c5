package row_test

import (
	"reflect"
	"slices"
	"testing"

	"copydesk/api"
	"copydesk/node"
	"copydesk/row"
)

// What is handed in, and what is answered (Rules, 2, 3, 4, 6).

// roomy is l with more behind it that none of it may tell.
func roomy[T any](l []T, more ...T) []T {
	return append(append(make([]T, 0, len(l)+len(more)), l...), more...)[:len(l)]
}

// spaciousMarks, spaciousNode and spacious are the same with wrong things in all spare room.
func spaciousMarks(l []api.Mark) []api.Mark {
	l = roomy(l, api.Mark{Type: "zz"}, api.Mark{Type: "em"})
	for i := range l {
		l[i].Attrs = spaciousAttrs(l[i].Attrs)
	}
	return l
}

func spaciousAttrs(l []api.Attr) []api.Attr {
	return roomy(l, api.Attr{Name: "zz", Value: "\n"}, api.Attr{Name: name17})
}

func spaciousNode(n api.Node) api.Node {
	n.Attrs, n.Marks = spaciousAttrs(n.Attrs), spaciousMarks(n.Marks)
	n.Kids = roomy(n.Kids, api.Node{Type: "zz"}, api.Node{Type: "text", Text: "a"})
	for i := range n.Kids {
		n.Kids[i] = spaciousNode(n.Kids[i])
	}
	return n
}

func spacious(l []api.Token) []api.Token {
	l = roomy(l, api.Token{Kind: 2}, api.Token{Kind: 4, Char: 'z'}, api.Token{})
	for i := range l {
		l[i].Attrs, l[i].Marks = spaciousAttrs(l[i].Attrs), spaciousMarks(l[i].Marks)
	}
	return l
}

func spaciousSchema(s api.Schema) api.Schema {
	for i, t := range s.Types {
		s.Types[i].Attrs = roomy(t.Attrs, api.AttrSpec{Name: "zz"})
		s.Types[i].Groups = roomy(t.Groups, "em", "zz")
		s.Types[i].Marks = roomy(t.Marks, "em", "zz")
	}
	for i, m := range s.Marks {
		s.Marks[i].Attrs = roomy(m.Attrs, api.AttrSpec{Name: "zz"}, api.AttrSpec{Name: name17})
		s.Marks[i].Excludes = roomy(m.Excludes, "b", "zz")
	}
	s.Types = roomy(s.Types, api.NodeType{Name: "zz"})
	s.Marks = roomy(s.Marks, api.MarkType{Name: "zz"}, api.MarkType{Name: "zz"})
	return s
}

// full is v with all lists within it as long as their room is.
func full(v reflect.Value) any {
	switch v.Kind() {
	case reflect.Slice:
		all := []any{}
		for i := range v.Cap() {
			all = append(all, full(v.Slice(0, v.Cap()).Index(i)))
		}
		return all
	case reflect.Struct:
		all := []any{}
		for i := range v.NumField() {
			all = append(all, full(v.Field(i)))
		}
		return all
	}
	return v.Interface()
}

func fullOf(v any) any {
	return full(reflect.ValueOf(v))
}

// room is memory of a list, from its first byte to the one behind its last.
type room struct {
	from, to uintptr
}

// rooms are those of all lists within v, their spare room too.
func rooms(v reflect.Value) []room {
	var all []room
	switch v.Kind() {
	case reflect.Slice:
		if size := uintptr(v.Cap()) * v.Type().Elem().Size(); size > 0 {
			all = append(all, room{v.Pointer(), v.Pointer() + size})
		}
		for i := range v.Len() {
			all = append(all, rooms(v.Index(i))...)
		}
	case reflect.Struct:
		for i := range v.NumField() {
			all = append(all, rooms(v.Field(i))...)
		}
	}
	return all
}

// apart tells whether no two lists within all of these share memory.
func apart(values ...any) bool {
	var all []room
	for _, v := range values {
		all = append(all, rooms(reflect.ValueOf(v))...)
	}
	slices.SortFunc(all, func(a, b room) int { return int(a.from) - int(b.from) })
	for i := 1; i < len(all); i++ {
		if all[i].from < all[i-1].to {
			return false
		}
	}
	return true
}

// spoil overwrites all lists within v, and their spare room.
func spoil(v reflect.Value) {
	switch v.Kind() {
	case reflect.Slice:
		for i := range v.Len() {
			spoil(v.Index(i))
		}
		v.Slice(0, v.Cap()).Clear()
	case reflect.Struct:
		for i := range v.NumField() {
			spoil(v.Field(i))
		}
	}
}

// answers are all lists that the calls answer for s, n and l.
func answers(s api.Schema, n api.Node, l []api.Token) []any {
	row.Check(s, l)
	row.Depth(l, len(l))
	row.Left(l)
	row.Same(l, l)
	row.Alike(l, l)
	of, _ := row.Of(s, n)
	made, _ := row.Make(s, l)
	all := []any{of, made}
	for _, x := range [][2]int{{0, len(l)}, {0, len(l) / 2}, {len(l) / 2, len(l)}, {len(l) / 3, len(l) / 2}, {0, 0}, {len(l), len(l)}} {
		cut, _ := row.Cut(l, x[0], x[1])
		put, _ := row.Put(l, x[0], x[1], l)
		less, _ := row.Put(l, x[0], x[1], nil)
		all = append(all, cut, put, less)
	}
	return all
}

// handed are nodes and rows, documents and others.
func handed(s api.Schema) [][2]string {
	all := append(documents(s), [2]string{"zz", "(zz[a=1]^x[b=2] 'ab'^em[c=3]^em[d=4] )^y[e=5] /q[f=6]^z"}, [2]string{"p('a'^em)", ") ) (p 'ab'^em (h[level=1]"})
	return append(all, [2]string{"doc^em(p)", "'a'^code^em"}, [2]string{"doc(p('a' 'b'))", "(h[level=1]^em ) (h[level=1]^em 'ab'^em /br^em )"})
}

func schemas() []func() api.Schema {
	return []func() api.Schema{pages, books}
}

func TestWhatIsHandedInStays(t *testing.T) {
	for _, plain := range schemas() {
		for _, x := range handed(plain()) {
			s, n, l := spaciousSchema(plain()), spaciousNode(tree(x[0])), spacious(tokens(x[1]))
			if got := answers(s, n, l); !apart(append(got, s, n, l)...) {
				t.Errorf("%s, %s: answers share memory", x[0], x[1])
			}
			if !reflect.DeepEqual(fullOf(n), fullOf(spaciousNode(tree(x[0])))) {
				t.Errorf("%s: now %s", x[0], told(n))
			}
			if !reflect.DeepEqual(fullOf(l), fullOf(spacious(tokens(x[1])))) {
				t.Errorf("%s: now %s", x[1], shown(l))
			}
			if !reflect.DeepEqual(fullOf(s), fullOf(spaciousSchema(plain()))) {
				t.Errorf("%s: the schema is another one", x[0])
			}
		}
	}
}

func TestSpareRoomIsNotRead(t *testing.T) {
	for _, plain := range schemas() {
		s, wide := plain(), spaciousSchema(plain())
		for _, x := range handed(plain()) {
			n, l := tree(x[0]), tokens(x[1])
			if !reflect.DeepEqual(answers(s, n, l), answers(wide, spaciousNode(tree(x[0])), spacious(tokens(x[1])))) {
				t.Errorf("%s, %s: other answers by their spare room", x[0], x[1])
			}
			room := spacious(tokens(x[1]))
			if row.Check(s, l) != row.Check(wide, room) || left(l) != left(room) || row.Depth(l, len(l)+1) != row.Depth(room, len(l)+1) || !row.Same(l, room) {
				t.Errorf("%s: another one by its spare room", x[1])
			}
			if ahead, behind := row.Alike(room[:len(room)/2], room); ahead != len(room)/2 || behind != 0 {
				t.Errorf("%s: Alike %d, %d by its spare room", x[1], ahead, behind)
			}
		}
	}
}

// Nothing that is put into an answer, its spare room too, is seen in what was handed in, or in another answer.
func TestAnswersAreNewMemory(t *testing.T) {
	for _, plain := range schemas() {
		s := plain()
		for _, x := range handed(plain()) {
			n, l := tree(x[0]), tokens(x[1])
			first, second := answers(s, n, l), answers(s, n, l)
			for _, a := range first {
				spoil(reflect.ValueOf(a))
			}
			if !alike(n, tree(x[0])) || !equal(l, tokens(x[1])) || !reflect.DeepEqual(second, answers(s, n, l)) || !reflect.DeepEqual(s, plain()) {
				t.Errorf("%s, %s: now %s, %s", x[0], x[1], told(n), shown(l))
			}
		}
	}
}

// Tokens and nodes that share their lists are as many of their own in what is answered.
func TestListsThatAreOne(t *testing.T) {
	em := []api.Mark{{Type: "a", Attrs: []api.Attr{{Name: "href"}, {Name: "title"}}}}
	char := api.Token{Kind: api.TokChar, Marks: em, Char: 'a'}
	img := api.Token{Kind: api.TokLeaf, Type: "img", Marks: em, Attrs: []api.Attr{{Name: "src"}}}
	l := []api.Token{{Kind: 1, Type: "sec"}, {Kind: 1, Type: "par"}, char, img, char, img, img, {Kind: 2}, {Kind: 1, Type: "par"}, char, char, {Kind: 2}, {Kind: 2}}
	n, e := row.Make(books(), l)
	if e != ok || !apart(n, em, img.Attrs) {
		t.Errorf("Make: error %d", e)
	}
	if got, _ := row.Cut(l, 0, len(l)); !apart(got, em, img.Attrs) || !equal(got, l) {
		t.Errorf("Cut: %s", shown(got))
	}
	if got, _ := row.Put(l, 3, 6, l); !apart(got, em, img.Attrs) || len(got) != len(l)*2-3 {
		t.Errorf("Put: %s", shown(got))
	}
	par := api.Node{Type: "par", Kids: []api.Node{{Type: "img", Attrs: img.Attrs, Marks: em}, {Type: "text", Marks: em, Text: "aaa"}}}
	n = api.Node{Type: "top", Kids: []api.Node{{Type: "sec", Kids: []api.Node{par, par}}, {Type: "sec", Kids: []api.Node{par}}}}
	if got, e := row.Of(books(), n); e != ok || !apart(got, em, img.Attrs) || !equal(got, rowByWords(books(), n)) {
		t.Errorf("Of: %s", shown(got))
	}
}

// hollow is l whose lists are empty where they were nil.
func hollow(l []api.Token) []api.Token {
	l = append([]api.Token{}, l...)
	for i, t := range l {
		l[i].Attrs, l[i].Marks = append([]api.Attr{}, t.Attrs...), hollowMarks(t.Marks)
	}
	return l
}

func hollowMarks(l []api.Mark) []api.Mark {
	l = append([]api.Mark{}, l...)
	for i, m := range l {
		l[i].Attrs = append([]api.Attr{}, m.Attrs...)
	}
	return l
}

func hollowNode(n api.Node) api.Node {
	n.Attrs, n.Marks = append([]api.Attr{}, n.Attrs...), hollowMarks(n.Marks)
	n.Kids = append([]api.Node{}, n.Kids...)
	for i, kid := range n.Kids {
		n.Kids[i] = hollowNode(kid)
	}
	return n
}

func TestNilAndEmptyAreTheSame(t *testing.T) {
	for _, plain := range schemas() {
		s := plain()
		for _, x := range handed(plain()) {
			n, l, empty := tree(x[0]), tokens(x[1]), hollow(tokens(x[1]))
			a, e := row.Of(s, n)
			b, f := row.Of(s, hollowNode(n))
			if e != f || !equal(a, b) {
				t.Errorf("Of %s is another one with empty lists", x[0])
			}
			c, e := row.Make(s, l)
			d, f := row.Make(s, empty)
			if e != f || !alike(c, d) || row.Check(s, l) != row.Check(s, empty) {
				t.Errorf("%s is another one with empty lists", x[1])
			}
			if !row.Same(l, empty) || !row.Same(empty, l) || left(l) != left(empty) {
				t.Errorf("%s is not the same with empty lists", x[1])
			}
			if ahead, behind := row.Alike(l, empty); ahead != len(l) || behind != 0 {
				t.Errorf("%s is alike %d, %d with empty lists", x[1], ahead, behind)
			}
			cutIs(t, empty, 0, len(l), l, ok)
			putIs(t, empty, 0, 0, empty, then(l, l), ok)
		}
	}
}

// An error comes alone, whatever there would be else.
func TestNothingBesideAnError(t *testing.T) {
	for _, l := range [][]api.Token{tokens(")"), tokens("(p"), tokens("(p ) /br"), tokens("/zz"), times(tokens("/hr"), 1<<16), times(tokens("/hr"), 1<<16+1)} {
		if n, e := row.Make(pages(), l); e == ok || !reflect.DeepEqual(n, api.Node{}) {
			t.Errorf("Make of %s: %.500s, error %d", shown(l), told(n), e)
		}
	}
	for _, n := range []api.Node{{}, tree("p('a')"), tree("doc^em(p('a'))"), doc(nested(20)), tree("doc(p('a' 'b'))")} {
		if l, e := row.Of(pages(), n); e == ok || l != nil || e != node.Document(pages(), n) {
			t.Errorf("Of %s: %s, error %d", told(n), shown(l), e)
		}
	}
}
