package pack_test

import (
	"bytes"
	"reflect"
	"slices"
	"strings"
	"testing"

	"copydesk/api"
)

// What is handed in, and what is answered (Rules, 2, 3, 4, 6).

// remade is v, all its lists made anew as each makes them.
func remade(v reflect.Value, anew func(l reflect.Value) reflect.Value) reflect.Value {
	out := own(v.Interface())
	switch v.Kind() {
	case reflect.Slice:
		out.Set(anew(v))
		for i := range v.Len() {
			out.Index(i).Set(remade(v.Index(i), anew))
		}
	case reflect.Struct:
		for i := range v.NumField() {
			out.Field(i).Set(remade(v.Field(i), anew))
		}
	}
	return out
}

// junk is something that can't be told, if it can be: it stands in spare room.
func junk(typ reflect.Type) reflect.Value {
	v := reflect.New(typ).Elem()
	for _, at := range spots(v) {
		switch at.Kind() {
		case reflect.String:
			at.SetString(text21)
		case reflect.Int:
			at.SetInt(-1)
		case reflect.Uint8:
			at.SetUint(9)
		}
	}
	return v
}

// spacious is x with wrong things in all spare room.
func spacious(x any) any {
	return remade(reflect.ValueOf(x), func(l reflect.Value) reflect.Value {
		all := reflect.MakeSlice(l.Type(), l.Len()+3, l.Len()+3)
		for i := range 3 {
			all.Index(l.Len() + i).Set(junk(l.Type().Elem()))
		}
		return all.Slice(0, l.Len())
	}).Interface()
}

// hollow is x, whose lists are empty where they were nil.
func hollow(x any) any {
	return remade(reflect.ValueOf(x), func(l reflect.Value) reflect.Value {
		return reflect.MakeSlice(l.Type(), l.Len(), l.Len())
	}).Interface()
}

// whole is v with all lists within it as long as their room is.
func whole(v reflect.Value) any {
	var all []any
	switch v.Kind() {
	case reflect.Slice:
		for i := range v.Cap() {
			all = append(all, whole(v.Slice(0, v.Cap()).Index(i)))
		}
		return all
	case reflect.Struct:
		for i := range v.NumField() {
			all = append(all, whole(v.Field(i)))
		}
		return all
	}
	return v.Interface()
}

func sameRoom(a, b any) bool {
	return reflect.DeepEqual(whole(reflect.ValueOf(a)), whole(reflect.ValueOf(b)))
}

// room is memory of a list, from its first byte to the one behind its last.
type room struct {
	from, to uintptr
}

// rooms are those of all lists within v, their spare room too.
func rooms(v reflect.Value) []room {
	var all []room
	switch v.Kind() {
	case reflect.Slice:
		if size := uintptr(v.Cap()) * v.Type().Elem().Size(); size > 0 {
			all = append(all, room{v.Pointer(), v.Pointer() + size})
		}
		for i := range v.Len() {
			all = append(all, rooms(v.Index(i))...)
		}
	case reflect.Struct:
		for i := range v.NumField() {
			all = append(all, rooms(v.Field(i))...)
		}
	}
	return all
}

// apart tells whether no two lists within all of these share memory.
func apart(values ...any) bool {
	var all []room
	for _, v := range values {
		all = append(all, rooms(reflect.ValueOf(v))...)
	}
	slices.SortFunc(all, func(a, b room) int { return int(a.from) - int(b.from) })
	for i := 1; i < len(all); i++ {
		if all[i].from < all[i-1].to {
			return false
		}
	}
	return true
}

// spoil overwrites all lists within v, and their spare room.
func spoil(v reflect.Value) {
	switch v.Kind() {
	case reflect.Slice:
		for i := range v.Len() {
			spoil(v.Index(i))
		}
		v.Slice(0, v.Cap()).Clear()
	case reflect.Struct:
		for i := range v.NumField() {
			spoil(v.Field(i))
		}
	}
}

// handedIn are things of each sort, made anew each time; some of them can't be told.
func handedIn() []any {
	var all []any
	for _, x := range puttings() {
		all = append(all, x.x)
	}
	for _, x := range full() {
		all = append(all, x.x)
	}
	return append(all, api.Step{}, api.Step{Kind: 1, Mark: mark("a")}, api.Step{Kind: 3, Mid: []api.Token{shut, open("p")}}, api.Step{Kind: 6, Mid: []api.Token{{Kind: 4, Attrs: []api.Attr{attr("a", "")}}}}, []api.Step{{Kind: 1}, {Kind: 9, To: most + 1}}, tower(of("q"), 16))
}

func TestWhatIsHandedInStays(t *testing.T) {
	for _, plain := range handedIn() {
		x, same := spacious(plain), spacious(plain)
		b := append(make([]byte, 0, 9000), "ab"...)
		b = append(b, bytes.Repeat([]byte{7}, 8998)...)[:2]
		want := bytes.Clone(b[:cap(b)])
		one, e := put(b, x)
		two, _ := put(b, x)
		if !sameRoom(x, same) {
			t.Errorf("%s is another one now", shown(plain))
		}
		if !apart(b, one, two, x) {
			t.Errorf("%s: answers share memory", shown(plain))
		}
		again := bytes.Clone(two)
		spoil(reflect.ValueOf(one))
		if !bytes.Equal(b[:cap(b)], want) || !bytes.Equal(again, two) {
			t.Errorf("%s, error %d: what was handed in, or answered, is other bytes", shown(plain), e)
		}
		if slices.Contains(two[:cap(two)][len(two):], 7) {
			t.Errorf("%s: spare room is handed out", shown(plain))
		}
	}
}

func TestSpareRoomIsNotRead(t *testing.T) {
	for _, x := range handedIn() {
		want, e := put(nil, x)
		if got, f := put([]byte{}, spacious(x)); f != e || !bytes.Equal(got, want) {
			t.Errorf("%s: with spare room %s, error %d, want error %d", shown(x), shownBytes(got), f, e)
		}
	}
	for _, x := range puttings() {
		b := append(append([]byte{}, x.want...), 0, 1, 2, 3, 255)[:len(x.want)]
		if got, e := read(x.x, b); e != ok || !alike(reflect.ValueOf(got), reflect.ValueOf(x.x)) {
			t.Errorf("%s with spare room: %s, error %d", shownBytes(b), shown(got), e)
		}
		if got, e := read(x.x, b[:len(b)-1]); e != more {
			t.Errorf("%s with spare room: %s, error %d", shownBytes(b[:len(b)-1]), shown(got), e)
		}
	}
}

func TestNilAndEmptyAreTheSame(t *testing.T) {
	for _, x := range handedIn() {
		want, e := put(nil, x)
		if got, f := put([]byte{}, hollow(x)); f != e || !bytes.Equal(got, want) {
			t.Errorf("%s: with empty lists %s, error %d, want error %d", shown(x), shownBytes(got), f, e)
		}
	}
	for _, x := range things() {
		for _, b := range [][]byte{nil, {}} {
			if got, e := read(x, b); e != more || !empty(got) {
				t.Errorf("%T of nothing: %s, error %d", x, shown(got), e)
			}
		}
	}
}

// An answer beside an error is zero, its lists too.
func TestNothingBesideAnError(t *testing.T) {
	for _, x := range []any{tower(of("q"), 16), of(text21), api.Step{}, api.Step{Kind: 1, From: most + 1}, []api.Step{{Kind: 1}, {}}, []api.Step{{Kind: 1, To: -1}}, api.Schema{Marks: []api.MarkType{{Name: text21}}}} {
		if b, e := put([]byte("ab"), x); e == ok || b != nil {
			t.Errorf("%s: %s, error %d", shown(x), shownBytes(b), e)
		}
	}
	for _, x := range puttings() {
		for _, b := range [][]byte{x.want[:len(x.want)-1], join(x.want, 0)} {
			got, e := read(x.x, b)
			if zero := reflect.Zero(reflect.TypeOf(x.x)).Interface(); e == ok || !reflect.DeepEqual(got, zero) {
				t.Errorf("%T of %s: %s, error %d", x.x, shownBytes(b), shown(got), e)
			}
		}
	}
}

// Nothing that is put into what is read, its spare room too, is seen in another list of it, in another answer, or in the bytes; nor the other way round.
func TestAnswersAreNewMemory(t *testing.T) {
	for _, x := range puttings() {
		b := bytes.Clone(x.want)
		first, _ := read(x.x, b)
		second, _ := read(x.x, b)
		if !apart(first, second, b) {
			t.Errorf("%T of %s: answers share memory", x.x, shownBytes(b))
		}
		spoil(reflect.ValueOf(first))
		if !bytes.Equal(b, x.want) {
			t.Errorf("%T of %s: other bytes now", x.x, shownBytes(x.want))
		}
		for i := range b {
			b[i] = 'z'
		}
		if !alike(reflect.ValueOf(second), reflect.ValueOf(x.x)) {
			t.Errorf("%T of %s: now %s", x.x, shownBytes(x.want), shown(second))
		}
	}
}

// Things that share their lists have as many of their own in what is read.
func TestListsThatAreOne(t *testing.T) {
	attrs := []api.Attr{attr("a", "1")}
	marks := []api.Mark{mark("em", attrs...), mark("b", attrs...)}
	kids := []api.Node{{Type: "q", Attrs: attrs, Marks: marks}, {Type: "q", Attrs: attrs, Marks: marks}}
	mid := []api.Token{{Kind: 1, Attrs: attrs, Marks: marks}, {Kind: 3, Attrs: attrs, Marks: marks}, {Kind: 4, Marks: marks}}
	words, specs := strings.Fields("a b"), []api.AttrSpec{{Name: "a"}}
	for _, x := range []any{
		api.Node{Attrs: attrs, Marks: marks, Kids: []api.Node{{Kids: kids}, {Kids: kids}}},
		[]api.Step{{Kind: 1, Mid: mid}, {Kind: 2, Mid: mid}, {Kind: 6, Mid: mid}, {Kind: 3, Mark: marks[0]}, {Kind: 4, Mark: marks[0]}},
		api.Schema{Types: []api.NodeType{{Groups: words, Attrs: specs, Marks: words}, {Groups: words, Attrs: specs, Marks: words}}, Marks: []api.MarkType{{Excludes: words, Attrs: specs}, {Excludes: words, Attrs: specs}}},
	} {
		b, e := asPut(t, x)
		got, f := read(x, b)
		if e != ok || f != ok || !apart(got, b) {
			t.Errorf("%s: errors %d, %d, or lists share memory", shown(x), e, f)
		}
	}
}
