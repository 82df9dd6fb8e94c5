package step_test

import (
	"reflect"
	"slices"
	"testing"

	"copydesk/api"
	"copydesk/maps"
	"copydesk/row"
	"copydesk/step"
)

// What is handed in, and what is answered (Rules, 2, 3, 4, 6).

// roomy is l with more behind it that none of it may tell.
func roomy[T any](l []T, more ...T) []T {
	return append(append(make([]T, 0, len(l)+len(more)), l...), more...)[:len(l)]
}

func spaciousAttrs(l []api.Attr) []api.Attr {
	return roomy(l, api.Attr{Name: "zz", Value: "\n"}, api.Attr{Name: name17})
}

// spaciousMarks, spaciousNode, spaciousTokens, spaciousStep are the same with wrong things in all spare room.
func spaciousMarks(l []api.Mark) []api.Mark {
	l = roomy(l, api.Mark{Type: "zz"}, api.Mark{Type: "em"})
	for i := range l {
		l[i].Attrs = spaciousAttrs(l[i].Attrs)
	}
	return l
}

func spaciousNode(n api.Node) api.Node {
	n.Attrs, n.Marks = spaciousAttrs(n.Attrs), spaciousMarks(n.Marks)
	n.Kids = roomy(n.Kids, api.Node{Type: "zz"}, api.Node{Type: "text", Text: "a"})
	for i := range n.Kids {
		n.Kids[i] = spaciousNode(n.Kids[i])
	}
	return n
}

func spaciousTokens(l []api.Token) []api.Token {
	l = roomy(l, api.Token{Kind: 2}, api.Token{Kind: 4, Char: 'z'}, api.Token{})
	for i := range l {
		l[i].Attrs, l[i].Marks = spaciousAttrs(l[i].Attrs), spaciousMarks(l[i].Marks)
	}
	return l
}

func spaciousStep(t api.Step) api.Step {
	t.Mid, t.Mark.Attrs = spaciousTokens(t.Mid), spaciousAttrs(t.Mark.Attrs)
	return t
}

func spaciousSchema(s api.Schema) api.Schema {
	for i, t := range s.Types {
		s.Types[i].Attrs = roomy(t.Attrs, api.AttrSpec{Name: "zz"})
		s.Types[i].Groups = roomy(t.Groups, "em", "zz")
		s.Types[i].Marks = roomy(t.Marks, "em", "zz")
	}
	for i, m := range s.Marks {
		s.Marks[i].Attrs = roomy(m.Attrs, api.AttrSpec{Name: "zz"}, api.AttrSpec{Name: name17})
		s.Marks[i].Excludes = roomy(m.Excludes, "b", "zz")
	}
	s.Types = roomy(s.Types, api.NodeType{Name: "zz"})
	s.Marks = roomy(s.Marks, api.MarkType{Name: "zz"}, api.MarkType{Name: "zz"})
	return s
}

func spaciousChain(c api.Chain) api.Chain {
	c.Maps = roomy(c.Maps, []api.Range{{}}, nil)
	for i, m := range c.Maps {
		c.Maps[i] = roomy(m, api.Range{Old: 9}, api.Range{})
	}
	c.Mirrors = roomy(c.Mirrors, api.Mirror{}, api.Mirror{First: 0, Second: 1})
	return c
}

// full is v with all lists within it as long as their room is.
func full(v reflect.Value) any {
	switch v.Kind() {
	case reflect.Slice:
		all := []any{}
		for i := range v.Cap() {
			all = append(all, full(v.Slice(0, v.Cap()).Index(i)))
		}
		return all
	case reflect.Struct:
		all := []any{}
		for i := range v.NumField() {
			all = append(all, full(v.Field(i)))
		}
		return all
	}
	return v.Interface()
}

func sameRoom(a, b any) bool {
	return reflect.DeepEqual(full(reflect.ValueOf(a)), full(reflect.ValueOf(b)))
}

// room is memory of a list, from its first byte to the one behind its last.
type room struct {
	from, to uintptr
}

// rooms are those of all lists within v, their spare room too.
func rooms(v reflect.Value) []room {
	var all []room
	switch v.Kind() {
	case reflect.Slice:
		if size := uintptr(v.Cap()) * v.Type().Elem().Size(); size > 0 {
			all = append(all, room{v.Pointer(), v.Pointer() + size})
		}
		for i := range v.Len() {
			all = append(all, rooms(v.Index(i))...)
		}
	case reflect.Struct:
		for i := range v.NumField() {
			all = append(all, rooms(v.Field(i))...)
		}
	}
	return all
}

// apart tells whether no two lists within all of these share memory.
func apart(values ...any) bool {
	var all []room
	for _, v := range values {
		all = append(all, rooms(reflect.ValueOf(v))...)
	}
	slices.SortFunc(all, func(a, b room) int { return int(a.from) - int(b.from) })
	for i := 1; i < len(all); i++ {
		if all[i].from < all[i-1].to {
			return false
		}
	}
	return true
}

// spoil overwrites all lists within v, and their spare room.
func spoil(v reflect.Value) {
	switch v.Kind() {
	case reflect.Slice:
		for i := range v.Len() {
			spoil(v.Index(i))
		}
		v.Slice(0, v.Cap()).Clear()
	case reflect.Struct:
		for i := range v.NumField() {
			spoil(v.Field(i))
		}
	}
}

// handed is a document, one step and another one, that are handed in with a schema and a chain.
type handed struct {
	schema    func() api.Schema
	doc, step string
}

const rich = "top(sec^note[by=z](par^sub('a'^a[href=x,title=]^b img[src=x]^sub foot^b(par('b'))) hr^note[by=] fig[alt=x,src=y](par('cd'^b))))"

func handedIn() []handed {
	var all []handed
	for _, s := range right() {
		all = append(all, handed{pages, "doc(p('ab'^em 'c') h[level=1]('d'^em) hr)", s})
	}
	for _, s := range []string{
		"put 3 4 'x'^a[href=q,title=r]^b /img[src=p]^b", "put 3 3 'x'^a[href=q,title=r]^b", "put 2 2", "put 0 1 (sec^note[by=y]", "put 0 18 (sec (fig[alt=,src=z] ) )", "wrap 2 2 4 4 1 'x'^a[href=q,title=r] /img[src=x]^b", "wrap 11 12 18 19 1 (fig[alt=q,src=r]^note[by=t] )",
		"mark 0 18 a[href=q,title=r]", "mark 0 18 b", "mark 3 9 sup", "bare 0 18 a[href=x,title=]", "bare 0 18 b", "bare 2 3 sub", "attr 11 src=z", "attr 3 src=q", "attr 4 src=q", "swap 2 4 'a'^sup /img[src=x]^a[href=q,title=r]", "swap 0 2 (sec^note[by=a] (par^note[by=c]", "put 0 99", "mark 0 9 zz[a=b]",
	} {
		all = append(all, handed{books, rich, s})
	}
	return all
}

// answers are all that the calls answer for these.
func answers(s api.Schema, n api.Node, x api.Step, c api.Chain) []any {
	other, _ := row.Make(s, nil)
	came, a := step.Do(s, n, x)
	u, b := step.Undo(s, n, x)
	moved, left := step.Move(x, c)
	still, stays := step.Move(x, api.Chain{})
	there, d := step.Between(s, other, n)
	here, e := step.Between(s, n, n)
	return []any{step.Check(s, x), a, b, left, stays, d, e, step.Same(x, moved), came, u, moved, still, there, here, step.Map(x), step.Copy(x)}
}

func link() api.Chain {
	c := chain("2,3,0 / 0,0,1 / 3,0,3 / 3,0,4 ; 0~2")
	c.Maps = append(c.Maps, maps.Turn(c.Maps[3]))
	return c
}

func TestWhatIsHandedInStays(t *testing.T) {
	for _, h := range handedIn() {
		s, n, x, c := spaciousSchema(h.schema()), spaciousNode(tree(h.doc)), spaciousStep(change(h.step)), spaciousChain(link())
		if got := answers(s, n, x, c); !apart(append(got, s, n, x, c)...) {
			t.Errorf("%s to %s: answers share memory", h.step, h.doc)
		}
		if !sameRoom(n, spaciousNode(tree(h.doc))) || !sameRoom(x, spaciousStep(change(h.step))) {
			t.Errorf("%s to %s: now %s, %s", h.step, h.doc, shownStep(x), told(n))
		}
		if !sameRoom(s, spaciousSchema(h.schema())) || !sameRoom(c, spaciousChain(link())) {
			t.Errorf("%s to %s: the schema, or the chain, is another one", h.step, h.doc)
		}
	}
}

func TestSpareRoomIsNotRead(t *testing.T) {
	for _, h := range handedIn() {
		plain := answers(h.schema(), tree(h.doc), change(h.step), link())
		if !reflect.DeepEqual(plain, answers(spaciousSchema(h.schema()), spaciousNode(tree(h.doc)), spaciousStep(change(h.step)), spaciousChain(link()))) {
			t.Errorf("%s to %s: other answers by spare room", h.step, h.doc)
		}
	}
}

// Nothing that is put into an answer, its spare room too, is seen in what was handed in, or in another answer.
func TestAnswersAreNewMemory(t *testing.T) {
	for _, h := range handedIn() {
		s, n, x, c := h.schema(), tree(h.doc), change(h.step), link()
		first, second := answers(s, n, x, c), answers(s, n, x, c)
		for _, a := range first {
			spoil(reflect.ValueOf(a))
		}
		if !alike(n, tree(h.doc)) || !equalSteps(x, change(h.step)) || !reflect.DeepEqual(second, answers(s, n, x, c)) || !reflect.DeepEqual(s, h.schema()) || !reflect.DeepEqual(c, link()) {
			t.Errorf("%s to %s: now %s, %s", h.step, h.doc, shownStep(x), told(n))
		}
	}
}

// Tokens that share their lists have as many of their own in what is answered.
func TestListsThatAreOne(t *testing.T) {
	marks := []api.Mark{{Type: "a", Attrs: []api.Attr{{Name: "href"}, {Name: "title"}}}}
	attrs := []api.Attr{{Name: "src"}}
	char, img := api.Token{Kind: api.TokChar, Marks: marks, Char: 'a'}, api.Token{Kind: api.TokLeaf, Type: "img", Marks: marks, Attrs: attrs}
	l := []api.Token{char, img, char, img, char, char}
	n := api.Node{Type: "top", Kids: []api.Node{{Type: "sec", Kids: []api.Node{{Type: "par", Kids: []api.Node{{Type: "img", Attrs: attrs, Marks: marks}, {Type: "text", Marks: marks, Text: "aaa"}, {Type: "img", Attrs: attrs, Marks: marks}}}}}}}
	for _, x := range []api.Step{
		{Kind: api.StepPut, From: 3, To: 4, Mid: l}, {Kind: api.StepWrap, From: 3, Gap: 3, End: 5, To: 5, Insert: 2, Mid: l}, {Kind: api.StepMark, To: 9, Mark: api.Mark{Type: "a", Attrs: marks[0].Attrs}}, {Kind: api.StepMark, To: 9, Mark: api.Mark{Type: "b"}},
		{Kind: api.StepBare, To: 9, Mark: marks[0]}, {Kind: api.StepSwap, From: 3, To: 6, Mid: []api.Token{char, char, char}}, {Kind: api.StepSwap, From: 2, To: 3, Mid: []api.Token{img}}, {Kind: api.StepAttr, From: 2, Name: "src", Value: "x"}, {Kind: api.StepPut, From: 2, To: 7},
	} {
		if e := asTold(t, books(), n, x); e != ok {
			t.Errorf("%s: error %d", shownStep(x), e)
		}
		got := answers(books(), n, x, link())
		if !apart(append(got, marks, attrs)...) {
			t.Errorf("%s: answers share memory", shownStep(x))
		}
	}
}

func hollowMarks(l []api.Mark) []api.Mark {
	l = append([]api.Mark{}, l...)
	for i, m := range l {
		l[i].Attrs = append([]api.Attr{}, m.Attrs...)
	}
	return l
}

// hollow is n whose lists are empty where they were nil; hollowStep is t likewise.
func hollow(n api.Node) api.Node {
	n.Attrs, n.Marks, n.Kids = append([]api.Attr{}, n.Attrs...), hollowMarks(n.Marks), append([]api.Node{}, n.Kids...)
	for i, kid := range n.Kids {
		n.Kids[i] = hollow(kid)
	}
	return n
}

func hollowStep(t api.Step) api.Step {
	t.Mid, t.Mark.Attrs = append([]api.Token{}, t.Mid...), append([]api.Attr{}, t.Mark.Attrs...)
	for i, one := range t.Mid {
		t.Mid[i].Attrs, t.Mid[i].Marks = append([]api.Attr{}, one.Attrs...), hollowMarks(one.Marks)
	}
	return t
}

func TestNilAndEmptyAreTheSame(t *testing.T) {
	for _, h := range handedIn() {
		s, n, x := h.schema(), tree(h.doc), change(h.step)
		if asTold(t, s, n, x) != asTold(t, s, hollow(n), hollowStep(x)) || !step.Same(x, hollowStep(x)) || !step.Same(hollowStep(x), x) {
			t.Errorf("%s to %s is another one with empty lists", h.step, h.doc)
		}
		empty := link()
		empty.Maps = append(empty.Maps, []api.Range{})
		want, left := moveByWords(x, link())
		moveIs(t, hollowStep(x), empty, want, left)
		a, b := answers(s, n, x, link()), answers(s, hollow(n), hollowStep(x), empty)
		if !slices.EqualFunc(a[:8], b[:8], func(a, b any) bool { return a == b }) || !alike(a[8].(api.Node), b[8].(api.Node)) {
			t.Errorf("%s to %s comes to another one with empty lists", h.step, h.doc)
		}
		for i := 9; i < 14; i++ {
			if !equalSteps(a[i].(api.Step), b[i].(api.Step)) {
				t.Errorf("%s to %s: other steps with empty lists", h.step, h.doc)
			}
		}
	}
}

// An answer beside an error, or beside false, is zero, its lists too.
func TestNothingBesideAnError(t *testing.T) {
	for _, x := range []struct {
		doc, step string
	}{{pair, "put 1 4"}, {pair, "put 0 9"}, {pair, "put 0 0 /zz"}, {pair, "mark 0 9 em"}, {pair, "attr 0 level=2"}, {pair, "swap 0 1 (p^em"}, {pair, "swap 0 1 (li"}, {pair, "wrap 0 0 7 7 1 (p )"}, {"doc", "put 0 0"}, {pair, "attr 1 level=2"}} {
		n, e := step.Do(pages(), tree(x.doc), change(x.step))
		u, f := step.Undo(pages(), tree(x.doc), change(x.step))
		if e == ok || f != e || !reflect.DeepEqual(n, api.Node{}) || !reflect.DeepEqual(u, api.Step{}) {
			t.Errorf("%s to %s: errors %d, %d, beside them %s, %s", x.step, x.doc, e, f, told(n), shownStep(u))
		}
	}
	for _, x := range []string{"put 3 4 'x'", "wrap 3 3 4 4 1 'x'", "mark 3 4 em", "bare 3 4 em", "attr 3 level=2", "swap 3 4 'x'"} {
		for _, c := range []api.Chain{chain("2,3,0"), chain("2,3,0 / 0,0,0"), chain("; 0~1")} {
			if got, left := step.Move(change(x), c); left || !reflect.DeepEqual(got, api.Step{}) {
				t.Errorf("Move of %s: %s, %t", x, shownStep(got), left)
			}
		}
	}
	if x, e := step.Between(pages(), tree(pair), tree("doc")); e != shape || !reflect.DeepEqual(x, api.Step{}) {
		t.Errorf("Between: %s, error %d", shownStep(x), e)
	}
}
