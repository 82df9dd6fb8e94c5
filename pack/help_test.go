package pack_test

import (
	"bytes"
	"encoding/binary"
	"fmt"
	"reflect"
	"slices"
	"strings"
	"testing"

	"copydesk/api"
	"copydesk/pack"
)

const (
	ok   = api.OK
	arg  = api.ErrArg
	long = api.ErrLong
	bad  = api.ErrBad
	more = api.ErrMore
)

// of is a node of a type, with kids.
func of(typ string, kids ...api.Node) api.Node {
	return api.Node{Type: typ, Kids: kids}
}

func attr(name, value string) api.Attr {
	return api.Attr{Name: name, Value: value}
}

func mark(typ string, attrs ...api.Attr) api.Mark {
	return api.Mark{Type: typ, Attrs: attrs}
}

func open(typ string) api.Token {
	return api.Token{Kind: api.TokOpen, Type: typ}
}

func char(c byte, marks ...api.Mark) api.Token {
	return api.Token{Kind: api.TokChar, Char: c, Marks: marks}
}

var shut = api.Token{Kind: api.TokClose}

// tower is n in nodes p, one within the other, so that it is nested so much deeper.
func tower(n api.Node, more int) api.Node {
	for range more {
		n = of("p", n)
	}
	return n
}

// join is all of these, one behind the other: numbers, texts as they stand, and bytes.
func join(parts ...any) []byte {
	var b []byte
	for _, one := range parts {
		switch one := one.(type) {
		case int:
			b = binary.AppendUvarint(b, uint64(one))
		case rune:
			b = binary.AppendUvarint(b, uint64(one))
		case string:
			b = append(b, one...)
		case []byte:
			b = append(b, one...)
		}
	}
	return b
}

// things are one of each sort that is put and read, without anything.
func things() []any {
	return []any{api.Node{}, api.Step{}, []api.Step(nil), api.Schema{}}
}

func put(b []byte, x any) ([]byte, api.Errno) {
	switch x := x.(type) {
	case api.Node:
		return pack.Node(b, x)
	case api.Step:
		return pack.Step(b, x)
	case []api.Step:
		return pack.Steps(b, x)
	}
	return pack.Schema(b, x.(api.Schema))
}

// read reads b as one of the sort of x.
func read(x any, b []byte) (any, api.Errno) {
	switch x.(type) {
	case api.Node:
		return anyOf(pack.ReadNode(b))
	case api.Step:
		return anyOf(pack.ReadStep(b))
	case []api.Step:
		return anyOf(pack.ReadSteps(b))
	}
	return anyOf(pack.ReadSchema(b))
}

func anyOf[T any](x T, e api.Errno) (any, api.Errno) {
	return x, e
}

// alike tells whether both are the same, a nil list and an empty one too.
func alike(a, b reflect.Value) bool {
	switch a.Kind() {
	case reflect.Slice:
		if a.Len() != b.Len() {
			return false
		}
		for i := range a.Len() {
			if !alike(a.Index(i), b.Index(i)) {
				return false
			}
		}
		return true
	case reflect.Struct:
		for i := range a.NumField() {
			if !alike(a.Field(i), b.Field(i)) {
				return false
			}
		}
		return true
	}
	return a.Interface() == b.Interface()
}

// empty tells whether there is nothing in x, its lists nil or empty.
func empty(x any) bool {
	v := reflect.ValueOf(x)
	return alike(v, reflect.Zero(v.Type()))
}

func shown(x any) string {
	s := fmt.Sprintf("%T %+v", x, x)
	return s[:min(len(s), 500)]
}

func shownBytes(b []byte) string {
	return fmt.Sprintf("%d bytes, %v", len(b), b[:min(len(b), 200)])
}

// What follows goes by the words of the document: by its table of fields alone.

// table tells the fields that are told of each sort; of tokens and steps, of each kind.
var table = map[string]string{
	"Attr":     "Name Value",
	"Mark":     "Type Attrs",
	"Node":     "Type Attrs Marks Text Kids",
	"Token 1":  "Kind Type Attrs Marks",
	"Token 2":  "Kind",
	"Token 3":  "Kind Type Attrs Marks",
	"Token 4":  "Kind Char Marks",
	"Step 1":   "Kind From To Mid",
	"Step 2":   "Kind From To Gap End Insert Mid",
	"Step 3":   "Kind From To Mark",
	"Step 4":   "Kind From To Mark",
	"Step 5":   "Kind From Name Value",
	"Step 6":   "Kind From To Mid",
	"AttrSpec": "Name Default Must",
	"NodeType": "Name Content Groups Inline Attrs Marks",
	"MarkType": "Name Excludes Attrs",
	"Schema":   "Types Marks",
}

// fields are the names of what is told of v, a struct; none of a kind that is none.
func fields(v reflect.Value) []string {
	name := v.Type().Name()
	if kind := v.FieldByName("Kind"); kind.IsValid() {
		name = fmt.Sprint(name, " ", kind.Int())
	}
	return strings.Fields(table[name])
}

// tooLong tells whether something in v is more than a limit allows; of what its kind does not have (had is false) what lists hold is not asked.
func tooLong(v reflect.Value, had bool, deep int) bool {
	switch v.Kind() {
	case reflect.Int:
		return v.Int() > 1<<20
	case reflect.String:
		return v.Len() > 1<<20
	case reflect.Slice:
		if v.Len() > 1<<16 {
			return true
		}
		for i := range v.Len() {
			if had && tooLong(v.Index(i), true, deep) {
				return true
			}
		}
	case reflect.Struct:
		if v.Type().Name() == "Node" {
			deep++
		}
		if deep > 16 {
			return true
		}
		told := fields(v)
		for i := range v.NumField() {
			if tooLong(v.Field(i), had && slices.Contains(told, v.Type().Field(i).Name), deep) {
				return true
			}
		}
	}
	return false
}

func kinded(v reflect.Value) bool {
	return v.FieldByName("Kind").IsValid()
}

// wrong tells whether v can't be told, however long it is.
func wrong(v reflect.Value) bool {
	switch v.Kind() {
	case reflect.Int:
		return v.Int() < 0
	case reflect.Slice:
		for i := range v.Len() {
			if wrong(v.Index(i)) {
				return true
			}
		}
	case reflect.Struct:
		told := fields(v)
		for i := range v.NumField() {
			if name := v.Type().Field(i).Name; slices.Contains(told, name) && wrong(v.Field(i)) || !slices.Contains(told, name) && !empty(v.Field(i).Interface()) {
				return true
			}
		}
		return len(told) == 0
	}
	return false
}

// bytesOf puts the bytes of v, which can be told, behind b.
func bytesOf(b []byte, v reflect.Value) []byte {
	switch v.Kind() {
	case reflect.Int:
		return binary.AppendUvarint(b, uint64(v.Int()))
	case reflect.Uint8:
		return binary.AppendUvarint(b, v.Uint())
	case reflect.Bool:
		if v.Bool() {
			return append(b, 1)
		}
		return append(b, 0)
	case reflect.String:
		return append(binary.AppendUvarint(b, uint64(v.Len())), v.String()...)
	case reflect.Slice:
		b = binary.AppendUvarint(b, uint64(v.Len()))
		for i := range v.Len() {
			b = bytesOf(b, v.Index(i))
		}
	case reflect.Struct:
		for _, name := range fields(v) {
			b = bytesOf(b, v.FieldByName(name))
		}
	}
	return b
}

// told are the bytes of x behind b, or the error.
func told(b []byte, x any) ([]byte, api.Errno) {
	v := reflect.ValueOf(x)
	if tooLong(v, true, 0) {
		return nil, long
	}
	if wrong(v) {
		return nil, arg
	}
	return bytesOf(bytes.Clone(b), v), ok
}

// asPut fails unless x is put as the words say, and what is put is read again.
func asPut(t testing.TB, x any) ([]byte, api.Errno) {
	t.Helper()
	want, e := told([]byte("ab"), x)
	got, f := put([]byte("ab"), x)
	if !bytes.Equal(got, want) || f != e {
		t.Fatalf("%s: %s, error %d, want %s, error %d", shown(x), shownBytes(got), f, shownBytes(want), e)
	}
	if e != ok {
		return nil, e
	}
	back, f := read(x, got[2:])
	if f != ok || !alike(reflect.ValueOf(back), reflect.ValueOf(x)) {
		t.Fatalf("%s: read again %s, error %d", shown(x), shown(back), f)
	}
	return got[2:], ok
}

// source is read by the table; what can't be read is a panic with its error.
type source struct {
	b    []byte
	at   int
	deep int
}

func (s *source) number(most uint64, e api.Errno) uint64 {
	rest := s.b[s.at:]
	n := slices.IndexFunc(rest, func(c byte) bool { return c < 128 })
	switch {
	case n > 9 || n < 0 && len(rest) > 9:
		panic(bad)
	case n < 0:
		panic(more)
	}
	x, size := binary.Uvarint(rest)
	if size != n+1 || n > 0 && rest[n] == 0 {
		panic(bad)
	}
	if x > most {
		panic(e)
	}
	s.at += size
	return x
}

func (s *source) value(v reflect.Value) {
	switch v.Kind() {
	case reflect.Int:
		v.SetInt(int64(s.number(1<<20, long)))
	case reflect.Uint8:
		v.SetUint(s.number(255, bad))
	case reflect.Bool:
		v.SetBool(s.number(1, bad) == 1)
	case reflect.String:
		size := int(s.number(1<<20, long))
		if size > len(s.b)-s.at {
			panic(more)
		}
		v.SetString(string(s.b[s.at : s.at+size]))
		s.at += size
	case reflect.Slice:
		for range s.number(1<<16, long) {
			v.Set(reflect.Append(v, reflect.Zero(v.Type().Elem())))
			s.value(v.Index(v.Len() - 1))
		}
	case reflect.Struct:
		s.fields(v)
	}
}

func (s *source) fields(v reflect.Value) {
	if v.Type().Name() == "Node" {
		s.deep++
		defer func() { s.deep-- }()
	}
	if s.deep > 16 {
		panic(long)
	}
	names := fields(v)
	if kinded(v) {
		v.FieldByName("Kind").SetInt(int64(s.number(1<<30, bad)))
		names = fields(v)
		if len(names) == 0 {
			panic(bad)
		}
		names = names[1:]
	}
	for _, name := range names {
		s.value(v.FieldByName(name))
	}
}

// found is what b is, of the sort of x, or the first fault.
func found(x any, b []byte) (y any, e api.Errno) {
	none := reflect.Zero(reflect.TypeOf(x)).Interface()
	defer func() {
		switch f := recover().(type) {
		case nil:
		case api.Errno:
			y, e = none, f
		default:
			panic(f)
		}
	}()
	s, v := &source{b: b}, own(none)
	s.value(v)
	if s.at < len(b) {
		return none, bad
	}
	return v.Interface(), ok
}

// own is x in a place where it can be set.
func own(x any) reflect.Value {
	v := reflect.New(reflect.TypeOf(x)).Elem()
	v.Set(reflect.ValueOf(x))
	return v
}

// asRead fails unless b is read as the words say, as of the sort of x; and what is read is put again as the same bytes.
func asRead(t testing.TB, x any, b []byte) (any, api.Errno) {
	t.Helper()
	want, e := found(x, b)
	got, f := read(x, b)
	if f != e || !alike(reflect.ValueOf(got), reflect.ValueOf(want)) {
		t.Fatalf("%T of %s: %s, error %d, want %s, error %d", x, shownBytes(b), shown(got), f, shown(want), e)
	}
	if e == ok {
		if again, e := put(nil, got); e != ok || !bytes.Equal(again, b) {
			t.Fatalf("%T of %s: put again %s, error %d", x, shownBytes(b), shownBytes(again), e)
		}
	}
	return got, e
}

// one is a thing, and what it is called.
type one struct {
	name string
	x    any
}

// full are things that have all that there is, made anew each time; what kinds don't have they don't.
func full() []one {
	attrs := func() []api.Attr { return []api.Attr{attr("a", "1"), attr("bb", "\x00\xff")} }
	marks := func() []api.Mark { return []api.Mark{mark("em"), mark("a", attrs()...)} }
	mid := func() []api.Token {
		return []api.Token{
			{Kind: api.TokOpen, Type: "p", Attrs: attrs(), Marks: marks()}, {Kind: api.TokClose},
			{Kind: api.TokLeaf, Type: "br", Attrs: attrs(), Marks: marks()}, {Kind: api.TokChar, Char: 200, Marks: marks()},
		}
	}
	steps := func() []api.Step {
		return []api.Step{
			{Kind: api.StepPut, From: 1, To: 300, Mid: mid()},
			{Kind: api.StepWrap, From: 2, To: 9, Gap: 3, End: 400, Insert: 2, Mid: mid()},
			{Kind: api.StepMark, From: 70000, To: 5, Mark: mark("a", attrs()...)},
			{Kind: api.StepBare, From: 4, To: 6, Mark: mark("b", attrs()...)},
			{Kind: api.StepAttr, From: 7, Name: "level", Value: "2"},
			{Kind: api.StepSwap, From: 8, To: 12, Mid: mid()},
		}
	}
	specs := func() []api.AttrSpec {
		return []api.AttrSpec{{Name: "level", Default: "1"}, {Name: "src", Must: true}}
	}
	all := []one{
		{"node", api.Node{Type: "p", Attrs: attrs(), Marks: marks(), Text: "t", Kids: []api.Node{{Type: "q", Attrs: attrs(), Marks: marks(), Text: "ab", Kids: []api.Node{of("r"), of("s", of("t"))}}, of("u")}}},
		{"steps", steps()},
		{"schema", api.Schema{
			Types: []api.NodeType{
				{Name: "doc", Content: "p+"},
				{Name: "p", Content: "text*", Groups: []string{"block", "flow"}, Inline: true, Attrs: specs(), Marks: []string{"a", "em"}},
			},
			Marks: []api.MarkType{{Name: "em"}, {Name: "a", Excludes: []string{"em", "z"}, Attrs: specs()}},
		}},
	}
	for i, t := range steps() {
		all = append(all, one{fmt.Sprint("step ", i+1), t})
	}
	return all
}

// spots are all places within v that can be set, v too.
func spots(v reflect.Value) []reflect.Value {
	all := []reflect.Value{v}
	switch v.Kind() {
	case reflect.Slice:
		for i := range v.Len() {
			all = append(all, spots(v.Index(i))...)
		}
	case reflect.Struct:
		for i := range v.NumField() {
			all = append(all, spots(v.Field(i))...)
		}
	}
	return all
}
