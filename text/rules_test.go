package text_test

import (
	"reflect"
	"slices"
	"testing"

	"copydesk/api"
	"copydesk/text"
)

// What is handed in, and what is answered (Rules, 2, 3, 4, 6).

// roomy is l with more behind it that none of it may tell.
func roomy[T any](l []T, more ...T) []T {
	return append(append(make([]T, 0, len(l)+len(more)), l...), more...)[:len(l)]
}

func spaciousAttrs(l []api.Attr) []api.Attr {
	return roomy(l, api.Attr{Name: "zz", Value: "\n"}, api.Attr{Name: name17})
}

func spaciousMarks(l []api.Mark) []api.Mark {
	l = roomy(l, api.Mark{Type: "zz"}, api.Mark{Type: ""})
	for i := range l {
		l[i].Attrs = spaciousAttrs(l[i].Attrs)
	}
	return l
}

// spacious are the same nodes with wrong things in all spare room.
func spacious(l []api.Node) []api.Node {
	l = roomy(l, api.Node{Type: "zz"}, api.Node{Type: "text", Text: "\n"})
	for i, n := range l {
		l[i].Attrs, l[i].Marks, l[i].Kids = spaciousAttrs(n.Attrs), spaciousMarks(n.Marks), spacious(n.Kids)
	}
	return l
}

func hollowMarks(l []api.Mark) []api.Mark {
	l = append([]api.Mark{}, l...)
	for i, m := range l {
		l[i].Attrs = append([]api.Attr{}, m.Attrs...)
	}
	return l
}

// hollow are the same nodes, whose lists are empty where they were nil.
func hollow(l []api.Node) []api.Node {
	l = append([]api.Node{}, l...)
	for i, n := range l {
		l[i].Attrs, l[i].Marks, l[i].Kids = append([]api.Attr{}, n.Attrs...), hollowMarks(n.Marks), hollow(n.Kids)
	}
	return l
}

// full is v with all lists within it as long as their room is.
func full(v reflect.Value) any {
	switch v.Kind() {
	case reflect.Slice:
		all := []any{}
		for i := range v.Cap() {
			all = append(all, full(v.Slice(0, v.Cap()).Index(i)))
		}
		return all
	case reflect.Struct:
		all := []any{}
		for i := range v.NumField() {
			all = append(all, full(v.Field(i)))
		}
		return all
	}
	return v.Interface()
}

func sameRoom(a, b any) bool {
	return reflect.DeepEqual(full(reflect.ValueOf(a)), full(reflect.ValueOf(b)))
}

// room is memory of a list, from its first byte to the one behind its last.
type room struct {
	from, to uintptr
}

// rooms are those of all lists within v, their spare room too.
func rooms(v reflect.Value) []room {
	var all []room
	switch v.Kind() {
	case reflect.Slice:
		if size := uintptr(v.Cap()) * v.Type().Elem().Size(); size > 0 {
			all = append(all, room{v.Pointer(), v.Pointer() + size})
		}
		for i := range v.Len() {
			all = append(all, rooms(v.Index(i))...)
		}
	case reflect.Struct:
		for i := range v.NumField() {
			all = append(all, rooms(v.Field(i))...)
		}
	}
	return all
}

// apart tells whether no two lists within all of these share memory.
func apart(values ...any) bool {
	var all []room
	for _, v := range values {
		all = append(all, rooms(reflect.ValueOf(v))...)
	}
	slices.SortFunc(all, func(a, b room) int { return int(a.from) - int(b.from) })
	for i := 1; i < len(all); i++ {
		if all[i].from < all[i-1].to {
			return false
		}
	}
	return true
}

// spoil overwrites all lists within v, and their spare room.
func spoil(v reflect.Value) {
	switch v.Kind() {
	case reflect.Slice:
		for i := range v.Len() {
			spoil(v.Index(i))
		}
		v.Slice(0, v.Cap()).Clear()
	case reflect.Struct:
		for i := range v.NumField() {
			spoil(v.Field(i))
		}
	}
}

// handedIn are made anew each time, all in memory of their own.
func handedIn() [][]api.Node {
	all := [][]api.Node{nil, {of("p"), words("a"), of("p")}}
	for _, n := range tellings() {
		all = append(all, []api.Node{n})
	}
	for _, n := range wrongs() {
		all = append(all, []api.Node{n}, []api.Node{of("p", n)})
	}
	slices.SortStableFunc(all, func(a, b []api.Node) int { return len(shown(a)) - len(shown(b)) })
	return all
}

// telling is a text, and its error.
type telling struct {
	text string
	err  api.Errno
}

func tell(s string, e api.Errno) telling {
	return telling{s, e}
}

// answers are all that the calls answer for l.
func answers(l []api.Node) []telling {
	all := []telling{tell(text.List(l))}
	for _, n := range l {
		all = append(all, tell(text.Node(n)))
		for kind := range 6 {
			all = append(all, tell(text.Token(api.Token{Kind: kind, Type: n.Type, Attrs: n.Attrs, Marks: n.Marks, Char: 'c'})))
		}
		all = append(all, answers(n.Kids)...)
	}
	return all
}

func TestWhatIsHandedInStays(t *testing.T) {
	for _, plain := range handedIn() {
		l, same := spacious(plain), spacious(plain)
		answers(l)
		if !sameRoom(l, same) {
			t.Errorf("%s is another one now", shown(plain))
		}
	}
}

func TestSpareRoomIsNotRead(t *testing.T) {
	for _, l := range handedIn() {
		if !slices.Equal(answers(l), answers(spacious(l))) {
			t.Errorf("other answers for %s by spare room", shown(l))
		}
	}
}

func TestNilAndEmptyAreTheSame(t *testing.T) {
	for _, l := range handedIn() {
		if !slices.Equal(answers(l), answers(hollow(l))) {
			t.Errorf("other answers for %s with empty lists", shown(l))
		}
	}
	for _, s := range []string{"", " \n"} {
		if l, at, e := text.Parse(s); len(l) > 0 || at != 0 || e != ok {
			t.Errorf("Parse of %q: %s at %d, error %d", s, shown(l), at, e)
		}
	}
}

func TestNothingBesideAnError(t *testing.T) {
	for _, l := range handedIn() {
		for _, a := range answers(l) {
			if a.err != ok && a.text != "" {
				t.Errorf("error %d of %s, beside it %q", a.err, shown(l), a.text)
			}
		}
	}
}

// parsable are texts with lists of all kinds.
func parsable() []string {
	all := []string{"p,q,p", `p{a="1",b="2",c="3"}^em{x="",y="",z=""}^m^n("a"^em{x="",y="",z=""}^m,"b","c",q(),r{}^s{}),p`}
	for s := range tellings() {
		all = append(all, s)
	}
	slices.Sort(all)
	return all
}

// Nothing that is put into what Parse answers, its spare room too, is seen in another list of it, or in another answer.
func TestAnswersAreNewMemory(t *testing.T) {
	for _, s := range parsable() {
		first, _, _ := text.Parse(s)
		second, _, _ := text.Parse(s)
		if !apart(first, second) {
			t.Errorf("lists of Parse of %q share memory", s)
		}
		spoil(reflect.ValueOf(first))
		third, _, _ := text.Parse(s)
		if !reflect.DeepEqual(second, third) || len(third) == 0 {
			t.Errorf("Parse of %q: %s, then %s", s, shown(second), shown(third))
		}
	}
}
