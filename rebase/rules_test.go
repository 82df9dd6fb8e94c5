package rebase_test

import (
	"reflect"
	"slices"
	"testing"

	"copydesk/api"
	"copydesk/rebase"
)

// What is handed in, and what is answered (Rules, 2, 3, 4, 6).

// laid is v in memory of its own, each list within it laid anew by lay.
func laid(v reflect.Value, lay func(list reflect.Value) reflect.Value) reflect.Value {
	switch v.Kind() {
	case reflect.Slice:
		all := lay(v)
		for i := range all.Len() {
			all.Index(i).Set(laid(v.Index(i), lay))
		}
		return all
	case reflect.Struct:
		all := reflect.New(v.Type()).Elem()
		for i := range v.NumField() {
			all.Field(i).Set(laid(v.Field(i), lay))
		}
		return all
	}
	return v
}

// hollow is v whose lists are empty where they were nil.
func hollow[T any](v T) T {
	return laid(reflect.ValueOf(v), func(l reflect.Value) reflect.Value {
		return reflect.MakeSlice(l.Type(), l.Len(), l.Len())
	}).Interface().(T)
}

// spacious is v with room behind all its lists, in which wrong things stand.
func spacious[T any](v T) T {
	return laid(reflect.ValueOf(v), func(l reflect.Value) reflect.Value {
		room := reflect.MakeSlice(l.Type(), l.Len()+3, l.Len()+3)
		for i := range 3 {
			room.Index(l.Len() + i).Set(wrong(l.Type().Elem(), i))
		}
		return room.Slice(0, l.Len())
	}).Interface().(T)
}

// wrong is something of a type, another one by each number.
func wrong(typ reflect.Type, n int) reflect.Value {
	v := reflect.New(typ).Elem()
	switch typ.Kind() {
	case reflect.String:
		v.SetString(list("zz em " + name17)[n])
	case reflect.Int:
		v.SetInt(int64(n))
	case reflect.Uint8:
		v.SetUint(uint64('z' + n))
	case reflect.Struct:
		for i := range v.NumField() {
			v.Field(i).Set(wrong(v.Field(i).Type(), n))
		}
	}
	return v
}

// full is v with all lists within it as long as their room is.
func full(v reflect.Value) any {
	switch v.Kind() {
	case reflect.Slice:
		all := []any{}
		for i := range v.Cap() {
			all = append(all, full(v.Slice(0, v.Cap()).Index(i)))
		}
		return all
	case reflect.Struct:
		all := []any{}
		for i := range v.NumField() {
			all = append(all, full(v.Field(i)))
		}
		return all
	}
	return v.Interface()
}

func sameRoom[T any](a, b T) bool {
	return reflect.DeepEqual(full(reflect.ValueOf(a)), full(reflect.ValueOf(b)))
}

// room is memory of a list, from its first byte to the one behind its last.
type room struct {
	from, to uintptr
}

// rooms are those of all lists within v, their spare room too.
func rooms(v reflect.Value) []room {
	var all []room
	switch v.Kind() {
	case reflect.Slice:
		if size := uintptr(v.Cap()) * v.Type().Elem().Size(); size > 0 {
			all = append(all, room{v.Pointer(), v.Pointer() + size})
		}
		for i := range v.Len() {
			all = append(all, rooms(v.Index(i))...)
		}
	case reflect.Struct:
		for i := range v.NumField() {
			all = append(all, rooms(v.Field(i))...)
		}
	}
	return all
}

// apart tells whether no two lists within all of these share memory.
func apart(values ...any) bool {
	var all []room
	for _, v := range values {
		all = append(all, rooms(reflect.ValueOf(v))...)
	}
	slices.SortFunc(all, func(a, b room) int { return int(a.from) - int(b.from) })
	for i := 1; i < len(all); i++ {
		if all[i].from < all[i-1].to {
			return false
		}
	}
	return true
}

// spoil overwrites all lists within v, and their spare room.
func spoil(v reflect.Value) {
	switch v.Kind() {
	case reflect.Slice:
		for i := range v.Len() {
			spoil(v.Index(i))
		}
		v.Slice(0, v.Cap()).Clear()
	case reflect.Struct:
		for i := range v.NumField() {
			spoil(v.Field(i))
		}
	}
}

// handed is all that is handed in.
type handed struct {
	Schema      api.Schema
	Doc         api.Node
	Own, Others []api.Step
	Anew        []api.Anew
}

const rich = "top(sec^note[by=z](par^sub('a'^a[href=x,title=]^b img[src=x]^sub foot^b(par('b'))) hr^note[by=] fig[alt=x,src=y](par('cd'^b))))"

// handedIn is made anew each time, all in memory of its own.
func handedIn() []handed {
	return []handed{
		{pages(), tree(pair), nil, nil, nil}, {pages(), tree(pair), many("put 3 3 'y'"), many("put 1 1 'x'"), nil}, {pages(), tree(pair), many("put 1 1"), nil, again("0 put 1 1")}, {pages(), tree(pair), nil, many("put 1 1"), nil}, {pages(), tree("doc"), many("put 1 1"), many("put 1 1"), nil},
		{pages(), tree(pair), many("put 3 3 'yyy' ; put 4 5 'z' ; mark 1 6 em ; wrap 0 0 10 10 1 (li )"), many("put 1 1 'x' ; bare 2 3 em ; put 2 3"), again("0 put 4 4 'yyy' ; 1 put 5 6 'z'")}, {pages(), tree(pair), many("put 1 2 'x' ; put 1 9"), many("put 1 1"), again("0 put 1 2 'x'")}, {pages(), tree(pair), many("put 1 1"), many("put 1 2 'x' ; put 1 9"), again("1 put 1 2 'x'")},
		{books(), tree(rich), many("put 3 4 'x'^a[href=q,title=r]^b /img[src=p]^b ; mark 0 9 a[href=q,title=r] ; bare 4 5 b"), many("put 3 3 'z'^b ; mark 0 18 a[href=v,title=w] ; put 0 0 (sec^note[by=y] )"), again("0 put 6 7 'x'^a[href=q,title=r]^b /img[src=p]^b ; 1 mark 2 12 a[href=q,title=r]")},
		{books(), tree(rich), many("attr 11 src=z ; swap 2 4 'a'^sup /img[src=x]^a[href=q,title=r] ; bare 0 18 sup ; put 0 18 (sec (fig[alt=,src=z] ) ) ; wrap 1 1 3 3 1 (fig[alt=q,src=r]^note[by=t] )"), many("put 2 3 ; put 2 2 'a'^b"), again("0 attr 11 src=z ; 2 bare 0 18 sup")},
		{books(), tree(rich), many("put 3 3 'x'^a[href=q,title=r] ; put 3 4 'y'^a[href=q,title=r]"), many("put 2 4"), again("0 put 3 3 'x'^a[href=q,title=r]")},
	}
}

// answers are all that the calls answer for these.
func answers(h handed) []any {
	r, e := rebase.Rebase(h.Schema, h.Doc, h.Own, h.Others)
	over, f := rebase.Rebase(h.Schema, h.Doc, h.Others, h.Own)
	still, g := rebase.Rebase(h.Schema, h.Doc, h.Own, nil)
	all := []any{e, f, g, r, over, still, rebase.Same(r, over), rebase.Same(r, still)}
	for i := -1; i <= len(h.Own); i++ {
		all = append(all, rebase.Chain(h.Own, h.Others, h.Anew, i), rebase.Chain(h.Own, nil, nil, i))
	}
	for i := range min(len(h.Own), len(h.Others)) {
		x, y, can := rebase.Commute(h.Schema, h.Doc, h.Own[i], h.Others[i])
		p, q, do := rebase.Commute(h.Schema, h.Doc, h.Own[i], h.Own[i])
		all = append(all, x, y, can, p, q, do)
	}
	return all
}

// equalAnswers tells whether all of both are the same, an empty list and none being one.
func equalAnswers(a, b []any) bool {
	return slices.EqualFunc(a, b, func(a, b any) bool { return sameValue(reflect.ValueOf(a), reflect.ValueOf(b)) })
}

func TestWhatIsHandedInStays(t *testing.T) {
	for i, plain := range handedIn() {
		h := spacious(plain)
		if got := answers(h); !apart(append(got, h)...) {
			t.Errorf("%d: answers share memory", i)
		}
		if !sameRoom(h, spacious(plain)) {
			t.Errorf("%d: what was handed in is another one", i)
		}
	}
}

func TestSpareRoomIsNotRead(t *testing.T) {
	for i, h := range handedIn() {
		if !equalAnswers(answers(h), answers(spacious(h))) {
			t.Errorf("%d: other answers by spare room", i)
		}
	}
}

func TestNilAndEmptyAreTheSame(t *testing.T) {
	for i, h := range handedIn() {
		if !equalAnswers(answers(h), answers(hollow(h))) {
			t.Errorf("%d: other answers with empty lists", i)
		}
	}
}

// Nothing that is put into an answer, its spare room too, is seen in what was handed in, or in another answer.
func TestAnswersAreNewMemory(t *testing.T) {
	for i, h := range handedIn() {
		first, second := answers(h), answers(h)
		for _, a := range first {
			spoil(reflect.ValueOf(a))
		}
		if !alike(h, handedIn()[i]) || !reflect.DeepEqual(second, answers(h)) {
			t.Errorf("%d: what was handed in, or another answer, is another one", i)
		}
	}
}

// Steps that share their lists have as many of their own in what is answered.
func TestListsThatAreOne(t *testing.T) {
	marks := []api.Mark{{Type: "a", Attrs: []api.Attr{{Name: "href"}, {Name: "title"}}}}
	attrs := []api.Attr{{Name: "src"}}
	mid := []api.Token{{Kind: api.TokChar, Marks: marks, Char: 'a'}, {Kind: api.TokLeaf, Type: "img", Marks: marks, Attrs: attrs}}
	img := api.Node{Type: "img", Attrs: attrs, Marks: marks}
	n := api.Node{Type: "top", Kids: []api.Node{{Type: "sec", Kids: []api.Node{{Type: "par", Kids: []api.Node{img, img}}}}}}
	put, mark := api.Step{Kind: api.StepPut, From: 2, To: 2, Mid: mid}, api.Step{Kind: api.StepMark, To: 4, Mark: marks[0]}
	l := []api.Step{put, mark, put}
	for i, x := range []struct{ own, others []api.Step }{{l, l}, {l, nil}, {nil, l}, {l[:1], l[1:]}, {l[1:], l}} {
		if _, e := asTold(t, books(), n, x.own, x.others); e != ok {
			t.Errorf("%d: error %d", i, e)
		}
		if got := answers(handed{books(), n, x.own, x.others, []api.Anew{{Own: 0, Step: put}, {Own: 1, Step: put}}}); !apart(append(got, marks, attrs)...) {
			t.Errorf("%d: answers share memory", i)
		}
	}
}

// An answer beside an error, beside false, and where there is none, is zero, its lists too.
func TestNothingBesideAnError(t *testing.T) {
	for _, x := range []struct {
		doc         string
		own, others []api.Step
	}{
		{"doc", nil, nil}, {"doc", many("put 1 1"), many("put 1 1")}, {pair, many("put 1 1 'x'"), many("put 1 1 'x' ; put 1 9")}, {pair, many("put 1 1 'x' ; put 1 9"), many("put 1 1 'x'")}, {pair, repeated("put 1 1", 257), nil}, {pair, nil, repeated("put 1 1", 257)}, {pair, repeated("put 1 1 'x'", 128), repeated("put 1 1", 1)},
	} {
		if r, e := rebase.Rebase(pages(), tree(x.doc), x.own, x.others); e == ok || !reflect.DeepEqual(r, api.Rebased{}) {
			t.Errorf("Rebase of %s over %s: error %d, beside it %s", shownSteps(x.own), shownSteps(x.others), e, shownRebased(r))
		}
	}
	for _, s := range []string{"put 1 1 'x' ; put 1 1 'y'", "put 1 3 ; put 2 2 'x'", "put 2 2 'x' ; put 1 3", "put 1 1 'x' ; put 9 9", "put 9 9 ; put 1 1 'x'", "put 0 4 ; put 4 7", "swap 1 2 'a'^em ; put 1 2 'z'", "put 1 2 'z' ; swap 1 2 'a'^em"} {
		l := many(s)
		if x, y, can := rebase.Commute(pages(), tree(pair), l[0], l[1]); can || !reflect.DeepEqual(x, api.Step{}) || !reflect.DeepEqual(y, api.Step{}) {
			t.Errorf("Commute of %s: %s, %s, %t", s, shownStep(x), shownStep(y), can)
		}
	}
	own := many("put 1 1 'x' ; put 1 1")
	for _, x := range []struct {
		anew string
		i    int
	}{{"", -1}, {"", 2}, {"0 put 1 1", 0}, {"1 put 1 1", 1}, {"0 put 1 1 ; 0 put 1 1", 1}} {
		if c := rebase.Chain(own, own, again(x.anew), x.i); !reflect.DeepEqual(c, api.Chain{}) {
			t.Errorf("Chain of %d, anew %s: %v", x.i, x.anew, c)
		}
	}
}
