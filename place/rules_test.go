package place_test

import (
	"fmt"
	"reflect"
	"slices"
	"testing"

	"copydesk/api"
	"copydesk/place"
)

// What is handed in, and what is answered (Rules, 2, 3, 4, 6).

// roomy is l with more behind it that none of it may tell.
func roomy[T any](l []T, more ...T) []T {
	return append(append(make([]T, 0, len(l)+len(more)), l...), more...)[:len(l)]
}

func spaciousAttrs(l []api.Attr) []api.Attr {
	return roomy(l, api.Attr{Name: "zz", Value: "\n"}, api.Attr{Name: name17})
}

// spacious is n with wrong things in all spare room.
func spacious(n api.Node) api.Node {
	n.Attrs = spaciousAttrs(n.Attrs)
	n.Marks = roomy(n.Marks, api.Mark{Type: "zz"}, api.Mark{Type: "em"})
	for i := range n.Marks {
		n.Marks[i].Attrs = spaciousAttrs(n.Marks[i].Attrs)
	}
	n.Kids = roomy(n.Kids, api.Node{Type: "zz"}, api.Node{Type: "text", Text: "a"})
	for i := range n.Kids {
		n.Kids[i] = spacious(n.Kids[i])
	}
	return n
}

func spaciousSchema(s api.Schema) api.Schema {
	for i, t := range s.Types {
		s.Types[i].Attrs = roomy(t.Attrs, api.AttrSpec{Name: "zz"})
		s.Types[i].Groups = roomy(t.Groups, "em", "zz")
		s.Types[i].Marks = roomy(t.Marks, "em", "zz")
	}
	for i, m := range s.Marks {
		s.Marks[i].Attrs = roomy(m.Attrs, api.AttrSpec{Name: "zz"}, api.AttrSpec{Name: name17})
		s.Marks[i].Excludes = roomy(m.Excludes, "b", "zz")
	}
	s.Types = roomy(s.Types, api.NodeType{Name: "zz"})
	s.Marks = roomy(s.Marks, api.MarkType{Name: "zz"}, api.MarkType{Name: "zz"})
	return s
}

// full is v with all lists within it as long as their room is.
func full(v reflect.Value) any {
	switch v.Kind() {
	case reflect.Slice:
		all := []any{}
		for i := range v.Cap() {
			all = append(all, full(v.Slice(0, v.Cap()).Index(i)))
		}
		return all
	case reflect.Struct:
		all := []any{}
		for i := range v.NumField() {
			all = append(all, full(v.Field(i)))
		}
		return all
	}
	return v.Interface()
}

func fullOf(v any) any {
	return full(reflect.ValueOf(v))
}

// room is memory of a list, from its first byte to the one behind its last.
type room struct {
	from, to uintptr
}

// rooms are those of all lists within v, their spare room too.
func rooms(v reflect.Value) []room {
	var all []room
	switch v.Kind() {
	case reflect.Slice:
		if size := uintptr(v.Cap()) * v.Type().Elem().Size(); size > 0 {
			all = append(all, room{v.Pointer(), v.Pointer() + size})
		}
		for i := range v.Len() {
			all = append(all, rooms(v.Index(i))...)
		}
	case reflect.Struct:
		for i := range v.NumField() {
			all = append(all, rooms(v.Field(i))...)
		}
	}
	return all
}

// apart tells whether no two lists within all of these share memory.
func apart(values ...any) bool {
	var all []room
	for _, v := range values {
		all = append(all, rooms(reflect.ValueOf(v))...)
	}
	slices.SortFunc(all, func(a, b room) int { return int(a.from) - int(b.from) })
	for i := 1; i < len(all); i++ {
		if all[i].from < all[i-1].to {
			return false
		}
	}
	return true
}

// spoil overwrites all lists within v, and their spare room.
func spoil(v reflect.Value) {
	switch v.Kind() {
	case reflect.Slice:
		for i := range v.Len() {
			spoil(v.Index(i))
		}
		v.Slice(0, v.Cap()).Clear()
	case reflect.Struct:
		for i := range v.NumField() {
			spoil(v.Field(i))
		}
	}
}

// answers is what the calls answer for s and n, at each place of some and from it on.
func answers(s api.Schema, n api.Node) []any {
	var all []any
	for _, at := range []int{0, 1, 2, 3, 5, 6} {
		spots, e := place.Find(s, n, at)
		one, there := place.At(s, n, at)
		seen, f := place.Between(s, n, at, 6)
		words, _ := place.Words(s, n, at, 6)
		blocks, _ := place.Blocks(s, n, at, 6)
		shared, _ := place.Shared(s, n, at, 6)
		from, to, _ := place.Ends(s, n, at)
		all = append(all, spots, one, seen, e, there, f, words, blocks, shared, from, to)
	}
	return all
}

// handed are nodes, documents and others.
func handed(s api.Schema) []string {
	if s.Types[0].Name == "top" {
		return []string{"top(sec^note[by=z](par('a'^a[href=x,title=]^b img[src=x]^sub foot(par('b'))) hr^note[by=]))", "top(sec(par('ab'^a[href=,title=]^b 'c'^b)))", "top(sec sec sec)", "top(sec('a'))", "sec(par)"}
	}
	return []string{"doc(h[level=1]('ab'^em 'c') p('d'^code) hr)", "doc(li(p('a'^em 'b') li(p)) p)", "doc(p('abcdefgh'^em))", "doc(hr hr hr hr hr hr)", "doc(p('a' 'b'))", "doc^em(p)", "zz"}
}

func schemas() []func() api.Schema {
	return []func() api.Schema{pages, books}
}

func TestWhatIsHandedInStays(t *testing.T) {
	for _, plain := range schemas() {
		for _, x := range handed(plain()) {
			s, n := spaciousSchema(plain()), spacious(tree(x))
			if got := answers(s, n); !apart(append(got, s, n)...) {
				t.Errorf("%s: answers share memory", x)
			}
			if !reflect.DeepEqual(fullOf(n), fullOf(spacious(tree(x)))) {
				t.Errorf("%s: now %s", x, told(n))
			}
			if !reflect.DeepEqual(fullOf(s), fullOf(spaciousSchema(plain()))) {
				t.Errorf("%s: the schema is another one", x)
			}
		}
	}
}

func TestSpareRoomIsNotRead(t *testing.T) {
	for _, plain := range schemas() {
		for _, x := range handed(plain()) {
			if fmt.Sprint(answers(plain(), tree(x))) != fmt.Sprint(answers(spaciousSchema(plain()), spacious(tree(x)))) {
				t.Errorf("%s: other answers by spare room", x)
			}
		}
	}
}

// Nothing that is put into an answer, its spare room too, is seen in what was handed in, or in another answer.
func TestAnswersAreNewMemory(t *testing.T) {
	for _, plain := range schemas() {
		s := plain()
		for _, x := range handed(plain()) {
			n := tree(x)
			first, second := answers(s, n), answers(s, n)
			for _, a := range first {
				spoil(reflect.ValueOf(a))
			}
			if !alike(n, tree(x)) || !reflect.DeepEqual(second, answers(s, n)) || !reflect.DeepEqual(s, plain()) {
				t.Errorf("%s: now %s", x, told(n))
			}
		}
	}
}

// Nodes that share their lists have as many of their own in what is answered.
func TestListsThatAreOne(t *testing.T) {
	marks := []api.Mark{{Type: "a", Attrs: []api.Attr{{Name: "href"}, {Name: "title"}}}}
	attrs := []api.Attr{{Name: "src"}}
	par := api.Node{Type: "par", Kids: []api.Node{{Type: "img", Attrs: attrs, Marks: marks}, {Type: "text", Marks: marks, Text: "aaa"}, {Type: "img", Attrs: attrs, Marks: marks}}}
	sec := api.Node{Type: "sec", Kids: []api.Node{par, par}}
	n := api.Node{Type: "top", Kids: []api.Node{sec, sec}}
	for at, want := range []api.Node{sec, par, par.Kids[0], par.Kids[1]} {
		before := told(n)
		got, there := place.At(books(), n, at)
		if !there || told(got) != told(want) || !apart(got, marks, attrs) {
			t.Errorf("At %d: %s, %t", at, told(got), there)
		}
		spoil(reflect.ValueOf(got))
		if told(n) != before {
			t.Errorf("At %d: what was handed in is now %s", at, told(n))
		}
	}
	small := []api.Node{tree("p('a')")}
	d := doc(small[0], small[0], small[0])
	for i := range d.Kids {
		d.Kids[i].Kids = small[0].Kids
	}
	asTold(t, pages(), d)
}

// hollow is n whose lists are empty where they were nil.
func hollow(n api.Node) api.Node {
	n.Attrs, n.Marks, n.Kids = append([]api.Attr{}, n.Attrs...), append([]api.Mark{}, n.Marks...), append([]api.Node{}, n.Kids...)
	for i, m := range n.Marks {
		n.Marks[i].Attrs = append([]api.Attr{}, m.Attrs...)
	}
	for i, kid := range n.Kids {
		n.Kids[i] = hollow(kid)
	}
	return n
}

func TestNilAndEmptyAreTheSame(t *testing.T) {
	for _, x := range alongs() {
		n, empty := tree(x.doc), hollow(tree(x.doc))
		all, most := stretches(x.schema, n), length(x.schema, n)
		for at := range most + 1 {
			oneAsTold(t, x.schema, empty, all, at)
			pairAsTold(t, x.schema, empty, all, holding(x.schema), at, most)
		}
	}
	for _, x := range handed(pages()) {
		for at := range 3 {
			a, e := place.Find(pages(), tree(x), at)
			if b, f := place.Find(pages(), hollow(tree(x)), at); e != f || !slices.Equal(a, b) {
				t.Errorf("%s is another one with empty lists", x)
			}
		}
	}
}

// An error comes alone, and nothing alone, whatever there would be else.
func TestNothingBesideAnError(t *testing.T) {
	d := tree("doc(p('a' 'b'^em) hr)")
	for _, n := range []api.Node{{}, tree("p('a')"), tree("doc^em(p('a'))"), doc(nested(20)), d} {
		for _, at := range []int{-1, 6} {
			spots, _ := place.Find(pages(), n, at)
			one, _ := place.At(pages(), n, at)
			seen, _ := place.Between(pages(), n, 1, at)
			words, _ := place.Words(pages(), n, 1, at)
			blocks, _ := place.Blocks(pages(), n, 1, at)
			from, to, _ := place.Ends(pages(), n, at)
			shared, _ := place.Shared(pages(), n, 1, at)
			if spots != nil || seen != nil || words != "" || blocks != (api.Blocks{}) || from != 0 || to != 0 || shared != 0 || !reflect.DeepEqual(one, api.Node{}) {
				t.Errorf("%s at %d: something beside an error", told(n), at)
			}
		}
	}
	if one, there := place.At(pages(), d, 3); there || !reflect.DeepEqual(one, api.Node{}) {
		t.Errorf("At of %s at 3: %s, %t", told(d), told(one), there)
	}
}
