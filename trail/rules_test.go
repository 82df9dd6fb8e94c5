package trail_test

import (
	"reflect"
	"slices"
	"testing"

	"copydesk/api"
	"copydesk/trail"
)

// What is handed in, and what is answered (Rules, 2, 3, 4, 6).

// roomy is l with more behind it that none of it may tell.
func roomy[T any](l []T, more ...T) []T {
	return append(append(make([]T, 0, len(l)+len(more)), l...), more...)[:len(l)]
}

func spaciousAttrs(l []api.Attr) []api.Attr {
	return roomy(l, api.Attr{Name: "zz", Value: "\n"}, api.Attr{Name: name17})
}

// spaciousMarks, spaciousNode, spaciousTokens, spaciousStep are the same with wrong things in all spare room.
func spaciousMarks(l []api.Mark) []api.Mark {
	l = roomy(l, api.Mark{Type: "zz"}, api.Mark{Type: "em"})
	for i := range l {
		l[i].Attrs = spaciousAttrs(l[i].Attrs)
	}
	return l
}

func spaciousNode(n api.Node) api.Node {
	n.Attrs, n.Marks = spaciousAttrs(n.Attrs), spaciousMarks(n.Marks)
	n.Kids = roomy(n.Kids, api.Node{Type: "zz"}, api.Node{Type: "text", Text: "a"})
	for i := range n.Kids {
		n.Kids[i] = spaciousNode(n.Kids[i])
	}
	return n
}

func spaciousTokens(l []api.Token) []api.Token {
	l = roomy(l, api.Token{Kind: 2}, api.Token{Kind: 4, Char: 'z'}, api.Token{})
	for i := range l {
		l[i].Attrs, l[i].Marks = spaciousAttrs(l[i].Attrs), spaciousMarks(l[i].Marks)
	}
	return l
}

func spaciousStep(t api.Step) api.Step {
	t.Mid, t.Mark.Attrs = spaciousTokens(t.Mid), spaciousAttrs(t.Mark.Attrs)
	return t
}

// spaciousSteps is a trail likewise.
func spaciousSteps(l []api.Step) []api.Step {
	l = roomy(l, api.Step{Kind: 1, From: 9}, change("put 1 1 'x'"), api.Step{})
	for i := range l {
		l[i] = spaciousStep(l[i])
	}
	return l
}

func spaciousSchema(s api.Schema) api.Schema {
	for i, t := range s.Types {
		s.Types[i].Attrs = roomy(t.Attrs, api.AttrSpec{Name: "zz"})
		s.Types[i].Groups = roomy(t.Groups, "em", "zz")
		s.Types[i].Marks = roomy(t.Marks, "em", "zz")
	}
	for i, m := range s.Marks {
		s.Marks[i].Attrs = roomy(m.Attrs, api.AttrSpec{Name: "zz"}, api.AttrSpec{Name: name17})
		s.Marks[i].Excludes = roomy(m.Excludes, "b", "zz")
	}
	s.Types = roomy(s.Types, api.NodeType{Name: "zz"})
	s.Marks = roomy(s.Marks, api.MarkType{Name: "zz"}, api.MarkType{Name: "zz"})
	return s
}

// full is v with all lists within it as long as their room is.
func full(v reflect.Value) any {
	switch v.Kind() {
	case reflect.Slice:
		all := []any{}
		for i := range v.Cap() {
			all = append(all, full(v.Slice(0, v.Cap()).Index(i)))
		}
		return all
	case reflect.Struct:
		all := []any{}
		for i := range v.NumField() {
			all = append(all, full(v.Field(i)))
		}
		return all
	}
	return v.Interface()
}

func sameRoom(a, b any) bool {
	return reflect.DeepEqual(full(reflect.ValueOf(a)), full(reflect.ValueOf(b)))
}

// room is memory of a list, from its first byte to the one behind its last.
type room struct {
	from, to uintptr
}

// rooms are those of all lists within v, their spare room too.
func rooms(v reflect.Value) []room {
	var all []room
	switch v.Kind() {
	case reflect.Slice:
		if size := uintptr(v.Cap()) * v.Type().Elem().Size(); size > 0 {
			all = append(all, room{v.Pointer(), v.Pointer() + size})
		}
		for i := range v.Len() {
			all = append(all, rooms(v.Index(i))...)
		}
	case reflect.Struct:
		for i := range v.NumField() {
			all = append(all, rooms(v.Field(i))...)
		}
	}
	return all
}

// apart tells whether no two lists within all of these share memory.
func apart(values ...any) bool {
	var all []room
	for _, v := range values {
		all = append(all, rooms(reflect.ValueOf(v))...)
	}
	slices.SortFunc(all, func(a, b room) int { return int(a.from) - int(b.from) })
	for i := 1; i < len(all); i++ {
		if all[i].from < all[i-1].to {
			return false
		}
	}
	return true
}

// spoil overwrites all lists within v, and their spare room.
func spoil(v reflect.Value) {
	switch v.Kind() {
	case reflect.Slice:
		for i := range v.Len() {
			spoil(v.Index(i))
		}
		v.Slice(0, v.Cap()).Clear()
	case reflect.Struct:
		for i := range v.NumField() {
			spoil(v.Field(i))
		}
	}
}

// handed is a document and a trail, that are handed in with a schema.
type handed struct {
	schema     func() api.Schema
	doc, steps string
}

const rich = "top(sec^note[by=z](par^sub('a'^a[href=x,title=]^b img[src=x]^sub foot^b(par('b'))) hr^note[by=] fig[alt=x,src=y](par('cd'^b))))"

func handedIn() []handed {
	return []handed{
		{pages, pair, ""}, {pages, pair, "put 1 1 'x' ; put 3 3 'y'"}, {pages, pair, "put 1 4"}, {pages, pair, "put 1 1 ; put 1 9"}, {pages, "doc", "put 1 1"}, {pages, pair, "mark 0 7 em ; mark 1 3 em ; bare 1 3 em ; bare 3 3 em"},
		{books, rich, ""}, {books, rich, "put 3 4 'x'^a[href=q,title=r]^b /img[src=p]^b ; put 5 5 'y'^a[href=q,title=r]^b ; put 3 3 'z'^b"}, {books, rich, "mark 0 18 a[href=q,title=r] ; mark 0 9 a[href=q,title=r] ; bare 9 9 a[href=q,title=r]"},
		{books, rich, "attr 11 src=z ; attr 11 src=q ; attr 3 src=q ; swap 2 4 'a'^sup /img[src=q]^a[href=q,title=r] ; bare 0 18 sup ; put 0 18 (sec (fig[alt=,src=z] ) ) ; wrap 1 1 3 3 1 (fig[alt=q,src=r]^note[by=t] )"},
		{books, rich, "put 0 1 (sec^note[by=y] ; put 1 1 ; put 0 0 ; put 0 99"}, {books, rich, "wrap 2 2 4 4 1 'x'^a[href=q,title=r] /img[src=x]^b ; mark 0 18 zz[a=b]"},
	}
}

// answers are all that the calls answer for these.
func answers(s api.Schema, n api.Node, l []api.Step) []any {
	now, done, a := trail.Walk(s, n, l)
	still, none, b := trail.Walk(s, n, nil)
	back, c := trail.Undo(s, n, l)
	all := []any{done, none, a, b, c, trail.Check(s, l), trail.Same(l, back), trail.Same(l, l), now, still, back, trail.Chain(l), trail.Tight(l)}
	for i := range l {
		joined, can := trail.Join(l[max(i-1, 0)], l[i])
		all = append(all, joined, can)
	}
	return all
}

// equalAnswers tells whether all of both are the same, an empty list and none being one.
func equalAnswers(a, b []any) bool {
	return slices.EqualFunc(a, b, func(a, b any) bool {
		switch a := a.(type) {
		case api.Node:
			return alike(a, b.(api.Node))
		case []api.Step:
			return equalTrails(a, b.([]api.Step))
		case api.Chain:
			return equalChains(a, b.(api.Chain))
		case api.Step:
			return equalSteps(a, b.(api.Step))
		}
		return a == b
	})
}

func TestWhatIsHandedInStays(t *testing.T) {
	for _, h := range handedIn() {
		s, n, l := spaciousSchema(h.schema()), spaciousNode(tree(h.doc)), spaciousSteps(many(h.steps))
		if got := answers(s, n, l); !apart(append(got, s, n, l)...) {
			t.Errorf("%s from %s: answers share memory", h.steps, h.doc)
		}
		if !sameRoom(n, spaciousNode(tree(h.doc))) || !sameRoom(l, spaciousSteps(many(h.steps))) || !sameRoom(s, spaciousSchema(h.schema())) {
			t.Errorf("%s from %s: now %s, %s, or the schema is another one", h.steps, h.doc, shownSteps(l), told(n))
		}
	}
}

func TestSpareRoomIsNotRead(t *testing.T) {
	for _, h := range handedIn() {
		plain := answers(h.schema(), tree(h.doc), many(h.steps))
		if !equalAnswers(plain, answers(spaciousSchema(h.schema()), spaciousNode(tree(h.doc)), spaciousSteps(many(h.steps)))) {
			t.Errorf("%s from %s: other answers by spare room", h.steps, h.doc)
		}
	}
}

// Nothing that is put into an answer, its spare room too, is seen in what was handed in, or in another answer.
func TestAnswersAreNewMemory(t *testing.T) {
	for _, h := range handedIn() {
		s, n, l := h.schema(), tree(h.doc), many(h.steps)
		first, second := answers(s, n, l), answers(s, n, l)
		for _, a := range first {
			spoil(reflect.ValueOf(a))
		}
		if !alike(n, tree(h.doc)) || !equalTrails(l, many(h.steps)) || !reflect.DeepEqual(second, answers(s, n, l)) || !reflect.DeepEqual(s, h.schema()) {
			t.Errorf("%s from %s: now %s, %s", h.steps, h.doc, shownSteps(l), told(n))
		}
	}
}

// Steps that share their lists have as many of their own in what is answered.
func TestListsThatAreOne(t *testing.T) {
	marks := []api.Mark{{Type: "a", Attrs: []api.Attr{{Name: "href"}, {Name: "title"}}}}
	attrs := []api.Attr{{Name: "src"}}
	mid := []api.Token{{Kind: api.TokChar, Marks: marks, Char: 'a'}, {Kind: api.TokLeaf, Type: "img", Marks: marks, Attrs: attrs}}
	img := api.Node{Type: "img", Attrs: attrs, Marks: marks}
	n := api.Node{Type: "top", Kids: []api.Node{{Type: "sec", Kids: []api.Node{{Type: "par", Kids: []api.Node{img, img}}}}}}
	for _, l := range [][]api.Step{
		nil, {{Kind: api.StepPut, From: 2, To: 2, Mid: mid}, {Kind: api.StepPut, From: 4, To: 4, Mid: mid}, {Kind: api.StepPut, From: 2, To: 2, Mid: mid}}, {{Kind: api.StepWrap, From: 2, Gap: 2, End: 4, To: 4, Insert: 1, Mid: mid}, {Kind: api.StepWrap, From: 2, Gap: 2, End: 4, To: 4, Insert: 1, Mid: mid}},
		{{Kind: api.StepMark, To: 9, Mark: marks[0]}}, {{Kind: api.StepBare, To: 3, Mark: marks[0]}, {Kind: api.StepBare, To: 4, Mark: marks[0]}, {Kind: api.StepMark, To: 4, Mark: marks[0]}}, {{Kind: api.StepPut, From: 2, To: 3}, {Kind: api.StepPut, From: 2, To: 3}},
	} {
		asTold(t, books(), n, l)
		got := answers(books(), n, l)
		if !apart(append(got, marks, attrs)...) {
			t.Errorf("%s: answers share memory", shownSteps(l))
		}
	}
}

func hollowMarks(l []api.Mark) []api.Mark {
	l = append([]api.Mark{}, l...)
	for i, m := range l {
		l[i].Attrs = append([]api.Attr{}, m.Attrs...)
	}
	return l
}

// hollow is n whose lists are empty where they were nil; hollowStep is t likewise.
func hollow(n api.Node) api.Node {
	n.Attrs, n.Marks, n.Kids = append([]api.Attr{}, n.Attrs...), hollowMarks(n.Marks), append([]api.Node{}, n.Kids...)
	for i, kid := range n.Kids {
		n.Kids[i] = hollow(kid)
	}
	return n
}

func hollowStep(t api.Step) api.Step {
	t.Mid, t.Mark.Attrs = append([]api.Token{}, t.Mid...), append([]api.Attr{}, t.Mark.Attrs...)
	for i, one := range t.Mid {
		t.Mid[i].Attrs, t.Mid[i].Marks = append([]api.Attr{}, one.Attrs...), hollowMarks(one.Marks)
	}
	return t
}

func hollowSteps(l []api.Step) []api.Step {
	l = append([]api.Step{}, l...)
	for i, t := range l {
		l[i] = hollowStep(t)
	}
	return l
}

func TestNilAndEmptyAreTheSame(t *testing.T) {
	for _, h := range handedIn() {
		s, n, l := h.schema(), tree(h.doc), many(h.steps)
		if asTold(t, s, n, l) != asTold(t, s, hollow(n), hollowSteps(l)) || !trail.Same(l, hollowSteps(l)) || !trail.Same(hollowSteps(l), l) {
			t.Errorf("%s from %s is another one with empty lists", h.steps, h.doc)
		}
		if !equalAnswers(answers(s, n, l), answers(s, hollow(n), hollowSteps(l))) {
			t.Errorf("%s from %s: other answers with empty lists", h.steps, h.doc)
		}
	}
}

// An answer beside an error that tells of no document, or beside false, is zero, its lists too.
func TestNothingBesideAnError(t *testing.T) {
	for _, x := range []struct {
		n api.Node
		l []api.Step
	}{{tree("doc"), nil}, {tree("doc"), many("put 1 1")}, {tree(pair), repeated("put 1 1", 257)}, {api.Node{}, repeated("put 1 1", 257)}} {
		if n, done, e := trail.Walk(pages(), x.n, x.l); e == ok || done != 0 || !reflect.DeepEqual(n, api.Node{}) {
			t.Errorf("Walk of %s: error %d, beside it %s, %d", shownSteps(x.l), e, told(n), done)
		}
		if l, e := trail.Undo(pages(), x.n, x.l); e == ok || l != nil {
			t.Errorf("Undo of %s: error %d, beside it %s", shownSteps(x.l), e, shownSteps(l))
		}
	}
	if l, e := trail.Undo(pages(), tree(pair), many("put 1 1 'x' ; put 1 2 ; put 1 9")); e != place || l != nil {
		t.Errorf("Undo: error %d, beside it %s", e, shownSteps(l))
	}
	for _, s := range []string{"put 1 1 'x' ; put 3 3 'y'", "mark 1 3 em ; mark 4 5 em", "attr 1 a=b ; attr 2 a=b", "swap 1 1 ; swap 1 1", "put 1 1 ; mark 1 1 em"} {
		l := many(s)
		if got, can := trail.Join(l[0], l[1]); can || !reflect.DeepEqual(got, api.Step{}) {
			t.Errorf("Join of %s: %s, %t", s, shownStep(got), can)
		}
	}
}
