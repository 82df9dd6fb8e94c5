package draft_test

import (
	"reflect"
	"slices"
	"testing"

	"copydesk/api"
	"copydesk/draft"
)

// What is handed in, and what is answered (Rules, 2, 3, 4, 6).

// laid is v in memory of its own, each list within it laid anew by lay.
func laid(v reflect.Value, lay func(list reflect.Value) reflect.Value) reflect.Value {
	switch v.Kind() {
	case reflect.Slice:
		all := lay(v)
		for i := range all.Len() {
			all.Index(i).Set(laid(v.Index(i), lay))
		}
		return all
	case reflect.Struct:
		all := reflect.New(v.Type()).Elem()
		for i := range v.NumField() {
			all.Field(i).Set(laid(v.Field(i), lay))
		}
		return all
	}
	return v
}

// hollow is v whose lists are empty where they were nil.
func hollow[T any](v T) T {
	return laid(reflect.ValueOf(v), func(l reflect.Value) reflect.Value {
		return reflect.MakeSlice(l.Type(), l.Len(), l.Len())
	}).Interface().(T)
}

// spacious is v with room behind all its lists, in which wrong things stand.
func spacious[T any](v T) T {
	return laid(reflect.ValueOf(v), func(l reflect.Value) reflect.Value {
		room := reflect.MakeSlice(l.Type(), l.Len()+3, l.Len()+3)
		for i := range 3 {
			room.Index(l.Len() + i).Set(wrong(l.Type().Elem(), i))
		}
		return room.Slice(0, l.Len())
	}).Interface().(T)
}

// wrong is something of a type, another one by each number.
func wrong(typ reflect.Type, n int) reflect.Value {
	v := reflect.New(typ).Elem()
	switch typ.Kind() {
	case reflect.String:
		v.SetString(list("zz em " + name17)[n])
	case reflect.Int:
		v.SetInt(int64(n))
	case reflect.Uint8, reflect.Uint64:
		v.SetUint(uint64('z' + n))
	case reflect.Struct:
		for i := range v.NumField() {
			v.Field(i).Set(wrong(v.Field(i).Type(), n))
		}
	}
	return v
}

// full is v with all lists within it as long as their room is.
func full(v reflect.Value) any {
	switch v.Kind() {
	case reflect.Slice:
		all := []any{}
		for i := range v.Cap() {
			all = append(all, full(v.Slice(0, v.Cap()).Index(i)))
		}
		return all
	case reflect.Struct:
		all := []any{}
		for i := range v.NumField() {
			all = append(all, full(v.Field(i)))
		}
		return all
	}
	return v.Interface()
}

func sameRoom[T any](a, b T) bool {
	return reflect.DeepEqual(full(reflect.ValueOf(a)), full(reflect.ValueOf(b)))
}

// room is memory of a list, from its first byte to the one behind its last.
type room struct {
	from, to uintptr
}

// rooms are those of all lists within v, their spare room too.
func rooms(v reflect.Value) []room {
	var all []room
	switch v.Kind() {
	case reflect.Slice:
		if size := uintptr(v.Cap()) * v.Type().Elem().Size(); size > 0 {
			all = append(all, room{v.Pointer(), v.Pointer() + size})
		}
		for i := range v.Len() {
			all = append(all, rooms(v.Index(i))...)
		}
	case reflect.Struct:
		for i := range v.NumField() {
			all = append(all, rooms(v.Field(i))...)
		}
	}
	return all
}

// apart tells whether no two lists within all of these share memory.
func apart(values ...any) bool {
	var all []room
	for _, v := range values {
		all = append(all, rooms(reflect.ValueOf(v))...)
	}
	slices.SortFunc(all, func(a, b room) int { return int(a.from) - int(b.from) })
	for i := 1; i < len(all); i++ {
		if all[i].from < all[i-1].to {
			return false
		}
	}
	return true
}

// spoil overwrites all lists within v, and their spare room.
func spoil(v reflect.Value) {
	switch v.Kind() {
	case reflect.Slice:
		for i := range v.Len() {
			spoil(v.Index(i))
		}
		v.Slice(0, v.Cap()).Clear()
	case reflect.Struct:
		for i := range v.NumField() {
			spoil(v.Field(i))
		}
	}
}

// handed is all that is handed in.
type handed struct {
	Schema api.Schema
	Doc    api.Node
	Own    []api.Step
	Ahead  []api.Logged // of others, ahead of one's own
	Behind []api.Logged
}

const rich = "top(sec^note[by=z](par^sub('a'^a[href=x,title=]^b img[src=x]^sub foot^b(par('b'))) hr^note[by=] fig[alt=x,src=y](par('cd'^b))))"

// handedIn is made anew each time, all in memory of its own.
func handedIn() []handed {
	return []handed{
		{pages(), tree(pair), nil, nil, nil}, {pages(), tree(pair), many("put 3 3 'y'"), logged("9.1 put 1 1 'x'"), nil}, {pages(), tree("doc"), many("put 1 1"), logged("9.1 put 1 1"), nil}, {pages(), tree(pair), nil, logged("9.1 put 1 1 'x' ; 9.2 put 1 9"), nil}, {pages(), tree(pair), many("put 1 1 ; put 9 9 ; put 2 2 'z'"), nil, nil},
		{pages(), tree(pair), many("put 3 3 'yyy' ; put 4 5 'z' ; mark 1 6 em ; wrap 0 0 10 10 1 (li )"), logged("9.1 put 1 1 'x' ; 9.2 bare 2 3 em ; 9.3 put 2 3"), logged("9.4 put 1 1 'y' ; 5.1 put 3 3 'q'")},
		{books(), tree(rich), many("put 3 4 'x'^a[href=q,title=r]^b /img[src=p]^b ; mark 0 9 a[href=q,title=r] ; bare 4 5 b"), logged("9.1 put 3 3 'z'^b ; 9.1 mark 0 18 a[href=v,title=w] ; 9.2 put 0 0 (sec^note[by=y] )"), logged("9.3 put 0 2")},
		{books(), tree(rich), many("attr 11 src=z ; swap 2 4 'a'^sup /img[src=x]^a[href=q,title=r] ; bare 0 18 sup ; put 0 18 (sec (fig[alt=,src=z] ) ) ; wrap 1 1 3 3 1 (fig[alt=q,src=r]^note[by=t] )"), logged("9.1 put 2 3 ; 9.2 put 2 2 'a'^b"), logged("9.3 attr 11 src=q ; 5.1 attr 1 src=z")},
		{books(), tree(rich), many("put 3 3 'x'^a[href=q,title=r] ; put 3 4 'y'^a[href=q,title=r]"), logged("9.1 put 2 4"), logged("9.2 put 2 2 /img[src=y]^a[href=q,title=r]")},
	}
}

// A visit hands things in, and asks for all that there is to tell; used is called with what was handed in, and given with what was answered, as soon as it was.
type visit struct {
	used, given func(v any)
	all         []any
}

func (v *visit) tell(values ...any) {
	for _, one := range values {
		v.all = append(v.all, laid(reflect.ValueOf(one), func(l reflect.Value) reflect.Value {
			list := reflect.MakeSlice(l.Type(), l.Len(), l.Len())
			reflect.Copy(list, l)
			return list
		}).Interface())
		v.given(one)
	}
}

func (v *visit) ask(d *draft.Draft) {
	v.tell(d.Doc(), d.Base(), d.Pending(64), d.Pending(1), d.Dropped(), d.Doc(), d.Pending(64), d.Version(), d.Client())
}

// of answers what was told, each as it was then. All calls are made, some of them several times.
func (v *visit) of(h handed) []any {
	d, e := draft.New(h.Schema, h.Doc, 3, 5)
	v.used(h.Schema)
	v.used(h.Doc)
	v.tell(e)
	if e != ok {
		return v.all
	}
	v.ask(d)
	for _, step := range h.Own {
		serial, e := d.Edit(step)
		v.used(step)
		v.tell(serial, e)
	}
	for _, next := range []func() []api.Logged{func() []api.Logged { return h.Ahead }, func() []api.Logged { return d.Pending(1) }, func() []api.Logged { return h.Behind }, func() []api.Logged { return d.Pending(2) }} {
		v.ask(d)
		l := next()
		n, e := d.Take(d.Version(), l)
		v.used(l)
		v.tell(n, e)
	}
	v.ask(d)
	n, e := d.Back(1)
	v.tell(n, e)
	v.ask(d)
	return v.all
}

func nothing(any) {}

// answersOf are all that the calls answer for these.
func answersOf(h handed) []any {
	return (&visit{used: nothing, given: nothing}).of(h)
}

// ruin spoils all lists within v.
func ruin(v any) {
	spoil(reflect.ValueOf(v))
}

// equalAnswers tells whether all of both are the same, an empty list and none being one.
func equalAnswers(a, b []any) bool {
	return slices.EqualFunc(a, b, func(a, b any) bool { return sameValue(reflect.ValueOf(a), reflect.ValueOf(b)) })
}

func TestWhatIsHandedInStays(t *testing.T) {
	for i, plain := range handedIn() {
		h := spacious(plain)
		var got []any
		(&visit{used: nothing, given: func(v any) { got = append(got, v) }}).of(h)
		if !apart(append(got, h)...) {
			t.Errorf("%d: answers share memory", i)
		}
		if !sameRoom(h, spacious(plain)) {
			t.Errorf("%d: what was handed in is another one", i)
		}
	}
}

// Nothing that is put into what was handed in is seen later.
func TestWhatIsHandedInIsNotKept(t *testing.T) {
	for i, h := range handedIn() {
		if got := (&visit{used: ruin, given: nothing}).of(spacious(h)); !equalAnswers(got, answersOf(h)) {
			t.Errorf("%d: other answers when what was handed in is spoilt", i)
		}
	}
}

// Nothing that is put into an answer, its spare room too, is seen later.
func TestAnswersAreNewMemory(t *testing.T) {
	for i, h := range handedIn() {
		if got := (&visit{used: nothing, given: ruin}).of(h); !equalAnswers(got, answersOf(h)) || !alike(h, handedIn()[i]) {
			t.Errorf("%d: other answers when those ahead are spoilt", i)
		}
	}
}

func TestSpareRoomIsNotRead(t *testing.T) {
	for i, h := range handedIn() {
		if !equalAnswers(answersOf(h), answersOf(spacious(h))) {
			t.Errorf("%d: other answers by spare room", i)
		}
	}
}

func TestNilAndEmptyAreTheSame(t *testing.T) {
	for i, h := range handedIn() {
		if !equalAnswers(answersOf(h), answersOf(hollow(h))) {
			t.Errorf("%d: other answers with empty lists", i)
		}
	}
	d, _ := draft.New(pages(), hollow(tree(pair)), 0, 5)
	d.Edit(change("put 1 1 'x'"))
	if n, e := d.Take(0, hollow(logged("5.1 put 1 1 'x'"))); n != 1 || e != ok {
		t.Errorf("%d came, error %d", n, e)
	}
}

// Steps that share their lists have as many of their own in what is answered.
func TestListsThatAreOne(t *testing.T) {
	marks := []api.Mark{{Type: "a", Attrs: []api.Attr{{Name: "href"}, {Name: "title"}}}}
	attrs := []api.Attr{{Name: "src"}}
	mid := []api.Token{{Kind: api.TokChar, Marks: marks, Char: 'a'}, {Kind: api.TokLeaf, Type: "img", Marks: marks, Attrs: attrs}}
	img := api.Node{Type: "img", Attrs: attrs, Marks: marks}
	n := api.Node{Type: "top", Kids: []api.Node{{Type: "sec", Kids: []api.Node{{Type: "par", Kids: []api.Node{img, img}}}}}}
	put, mark := api.Step{Kind: api.StepPut, From: 2, To: 2, Mid: mid}, api.Step{Kind: api.StepMark, To: 4, Mark: marks[0]}
	l := []api.Step{put, mark, put}
	b := newBoth(t, books(), n, 0, 5)
	for _, step := range l {
		b.edit(step)
	}
	b.take(0, []api.Logged{{Client: 9, Step: put}, {Client: 9, Step: mark}, {Client: 9, Step: put}})
	var got []any
	(&visit{used: nothing, given: func(v any) { got = append(got, v) }}).ask(b.d)
	if !apart(append(got, marks, attrs)...) {
		t.Error("answers share memory")
	}
}

// An answer beside an error is zero, but how many came.
func TestNothingBesideAnError(t *testing.T) {
	d, _ := draft.New(pages(), tree(pair), 0, 5)
	for _, s := range []string{"put 2 1", "put 1 90", "put 1 4", "attr 0 level=2"} {
		if serial, e := d.Edit(change(s)); serial != 0 || e == ok {
			t.Errorf("Edit of %s: %d, error %d", s, serial, e)
		}
	}
	for _, x := range wrongNews() {
		if d, e := draft.New(x.s, x.n, x.version, x.client); d != nil || e == ok {
			t.Errorf("New of %s, %d, %d: error %d", told(x.n), x.version, x.client, e)
		}
	}
}

// nobodys are drafts that New did not make, each with how it came to be.
func nobodys() map[string]*draft.Draft {
	d, _ := draft.New(pages(), tree(pair), 3, 5)
	d.Edit(change("put 1 1 'x'"))
	d.Edit(change("put 3 3 'y'"))
	d.Take(3, logged("9.1 put 2 3"))
	copied := *d
	return map[string]*draft.Draft{"nil": nil, "new": new(draft.Draft), "a copy": &copied}
}

// The object is asked for ahead of all else.
func TestNobodysDrafts(t *testing.T) {
	for name, d := range nobodys() {
		for _, s := range []string{"put 1 1 'x'", "put 2 1", "put 1 90"} {
			if serial, e := d.Edit(change(s)); serial != 0 || e != isNil {
				t.Errorf("%s: Edit: %d, error %d", name, serial, e)
			}
		}
		for version := -1; version <= 5; version++ {
			for _, l := range [][]api.Logged{nil, logged("9.1 put 1 1 'x'"), logged("5.1 put 1 1 'x'"), logged("9.1 put 2 1")} {
				if n, e := d.Take(version, l); n != 0 || e != isNil {
					t.Errorf("%s: Take at %d: %d, error %d", name, version, n, e)
				}
			}
		}
		for _, most := range []int{-1, 0, 1, 64} {
			if n, e := d.Back(most); n != 0 || e != isNil {
				t.Errorf("%s: Back: %d, error %d", name, n, e)
			}
			if l := d.Pending(most); l != nil {
				t.Errorf("%s: Pending: %s", name, shownLogged(l))
			}
		}
		if !reflect.DeepEqual(d.Doc(), api.Node{}) || !reflect.DeepEqual(d.Base(), api.Node{}) || d.Version() != 0 || d.Client() != 0 || d.Dropped() != nil {
			t.Errorf("%s: %s, %s, %d, %d, %v", name, told(d.Doc()), told(d.Base()), d.Version(), d.Client(), d.Dropped())
		}
	}
}

// What is done to a copy is not done to the draft, and one draft knows nothing of another one.
func TestDraftsAreApart(t *testing.T) {
	b := newBoth(t, pages(), tree(pair), 0, 5)
	b.edit(change("put 1 1 'x'"))
	copied := *b.d
	copied.Edit(change("put 1 1 'q'"))
	copied.Back(1)
	copied.Take(0, logged("9.1 put 1 3"))
	b.holds()
	other := newBoth(t, pages(), tree("doc(p('zz'))"), 7, 5)
	other.edit(change("put 1 1 'u'"))
	b.take(0, logged("9.1 put 1 3"))
	other.holds()
	other.back(1)
	other.take(7, logged("9.1 put 1 1 'v' ; 5.1 put 1 1 'w'"))
	b.holds()
	b.take(1, b.d.Pending(1))
	other.holds()
}
