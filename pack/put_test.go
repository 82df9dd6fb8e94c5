package pack_test

import (
	"bytes"
	"fmt"
	"math"
	"reflect"
	"slices"
	"strings"
	"testing"

	"copydesk/api"
	"copydesk/pack"
)

// P15.1

// putting is a thing, and its bytes.
type putting struct {
	x    any
	want []byte
}

// puttings are told byte by byte: the chapter's examples first.
func puttings() []putting {
	em, link := mark("em"), mark("a", attr("href", "x"), attr("t", ""))
	emBytes, linkBytes := join(2, "em", 0), join(1, "a", 2, 4, "href", 1, "x", 1, "t", 0)
	deep := join(1, "q", 0, 0, 0, 0)
	for range 15 {
		deep = join(1, "p", 0, 0, 0, 1, deep)
	}
	return []putting{
		{of("p"), join(1, "p", 0, 0, 0, 0)},
		{api.Step{Kind: api.StepPut, From: 1, To: 3, Mid: []api.Token{shut}}, join(1, 1, 3, 1, 2)},

		{api.Node{}, join(0, 0, 0, 0, 0)},
		{api.Node{Text: "ab"}, join(0, 0, 0, 2, "ab", 0)},
		{api.Node{Attrs: []api.Attr{attr("b", "1"), attr("a", "22")}}, join(0, 2, 1, "b", 1, "1", 1, "a", 2, "22", 0, 0, 0)},
		{api.Node{Attrs: []api.Attr{{}, {}}}, join(0, 2, 0, 0, 0, 0, 0, 0, 0)},
		{api.Node{Marks: []api.Mark{link, {}, em}}, join(0, 0, 3, linkBytes, 0, 0, emBytes, 0, 0)},
		{of("doc", of("p", of("q")), of("hr")), join(3, "doc", 0, 0, 0, 2, 1, "p", 0, 0, 0, 1, 1, "q", 0, 0, 0, 0, 2, "hr", 0, 0, 0, 0)},
		{api.Node{Type: "T\x00\xff", Attrs: []api.Attr{attr("\n", "\"")}, Marks: []api.Mark{mark("")}, Text: "\x80", Kids: []api.Node{{}}}, join(3, "T\x00\xff", 1, 1, "\n", 1, "\"", 1, 0, 0, 1, "\x80", 1, 0, 0, 0, 0, 0)},
		{of(strings.Repeat("n", 127)), join(127, strings.Repeat("n", 127), 0, 0, 0, 0)},
		{of(strings.Repeat("n", 300)), join([]byte{172, 2}, strings.Repeat("n", 300), 0, 0, 0, 0)},
		{of("", slices.Repeat([]api.Node{{}}, 128)...), join(0, 0, 0, 0, []byte{128, 1}, bytes.Repeat([]byte{0}, 5*128))},
		{tower(of("q"), 15), deep},

		{api.Step{Kind: api.StepPut}, join(1, 0, 0, 0)},
		{api.Step{Kind: api.StepWrap}, join(2, 0, 0, 0, 0, 0, 0)},
		{api.Step{Kind: api.StepMark}, join(3, 0, 0, 0, 0)},
		{api.Step{Kind: api.StepBare}, join(4, 0, 0, 0, 0)},
		{api.Step{Kind: api.StepAttr}, join(5, 0, 0, 0)},
		{api.Step{Kind: api.StepSwap}, join(6, 0, 0, 0)},
		{api.Step{Kind: api.StepPut, From: 300, To: 128, Mid: []api.Token{char('a', em), shut}}, join(1, []byte{172, 2, 128, 1}, 2, 4, 'a', 1, emBytes, 2)},
		{api.Step{Kind: api.StepWrap, From: 1, To: 2, Gap: 3, End: 4, Insert: 5, Mid: []api.Token{open("li"), shut}}, join(2, 1, 2, 3, 4, 5, 2, 1, 2, "li", 0, 0, 2)},
		{api.Step{Kind: api.StepMark, From: 1, To: 2, Mark: link}, join(3, 1, 2, linkBytes)},
		{api.Step{Kind: api.StepBare, From: 2, To: 1, Mark: em}, join(4, 2, 1, emBytes)},
		{api.Step{Kind: api.StepAttr, From: 9, Name: "level", Value: "2"}, join(5, 9, 5, "level", 1, "2")},
		{api.Step{Kind: api.StepSwap, From: 1, To: 3, Mid: []api.Token{char('a'), {Kind: api.TokLeaf, Type: "br", Marks: []api.Mark{em}}}}, join(6, 1, 3, 2, 4, 'a', 0, 3, 2, "br", 0, 1, emBytes)},
		{api.Step{Kind: api.StepPut, Mid: []api.Token{
			{Kind: api.TokOpen, Type: "h", Attrs: []api.Attr{attr("level", "1")}, Marks: []api.Mark{em, link}}, shut, {Kind: api.TokOpen}, {Kind: api.TokLeaf},
			{Kind: api.TokLeaf, Type: "hr", Attrs: []api.Attr{attr("a", ""), attr("", "b")}}, char(0), char(127), char(128), char(255, link, em),
		}}, join(1, 0, 0, 9, 1, 1, "h", 1, 5, "level", 1, "1", 2, emBytes, linkBytes, 2, 1, 0, 0, 0, 3, 0, 0, 0, 3, 2, "hr", 2, 1, "a", 0, 0, 1, "b", 0, 4, 0, 0, 4, 127, 0, 4, 128, 0, 4, 255, 2, linkBytes, emBytes)},

		{[]api.Step(nil), join(0)},
		{[]api.Step{{Kind: api.StepPut, From: 7}}, join(1, 1, 7, 0, 0)},
		{[]api.Step{{Kind: api.StepAttr, Name: "b"}, {Kind: api.StepPut, To: 1}, {Kind: api.StepMark}}, join(3, 5, 0, 1, "b", 0, 1, 0, 1, 0, 3, 0, 0, 0, 0)},

		{api.Schema{}, join(0, 0)},
		{api.Schema{Types: []api.NodeType{{}}}, join(1, 0, 0, 0, 0, 0, 0, 0)},
		{api.Schema{Marks: []api.MarkType{{}}}, join(0, 1, 0, 0, 0)},
		{api.Schema{
			Types: []api.NodeType{
				{Name: "doc", Content: "p+"},
				{Name: "p", Content: "t*", Groups: []string{"b", "aa", ""}, Inline: true, Attrs: []api.AttrSpec{{Name: "x", Default: "1"}, {Must: true}, {Name: "y", Must: true}}, Marks: []string{"em", "c"}},
			},
			Marks: []api.MarkType{{Name: "em"}, {Name: "c", Excludes: []string{"em", "d"}, Attrs: []api.AttrSpec{{Name: "z", Default: "22"}}}},
		}, join(2, 3, "doc", 2, "p+", 0, 0, 0, 0, 1, "p", 2, "t*", 3, 1, "b", 2, "aa", 0, 1, 3, 1, "x", 1, "1", 0, 0, 0, 1, 1, "y", 0, 1, 2, 2, "em", 1, "c",
			2, 2, "em", 0, 0, 1, "c", 2, 2, "em", 1, "d", 1, 1, "z", 2, "22", 0)},
	}
}

func TestBytes(t *testing.T) {
	for _, x := range puttings() {
		for _, ahead := range []string{"", "\x00", "ahead", strings.Repeat("x", 300)} {
			if got, e := put([]byte(ahead), x.x); e != ok || !bytes.Equal(got, join(ahead, x.want)) {
				t.Errorf("%s: %s, error %d, want %s", shown(x.x), shownBytes(got), e, shownBytes(x.want))
			}
		}
		if got, e := put(nil, x.x); e != ok || !bytes.Equal(got, x.want) {
			t.Errorf("%s behind nothing: %s, error %d", shown(x.x), shownBytes(got), e)
		}
		asPut(t, x.x)
	}
	for _, x := range full() {
		if _, e := asPut(t, x.x); e != ok {
			t.Errorf("%s: error %d", x.name, e)
		}
	}
}

// Bytes are put behind others, call by call.
func TestBytesBehindOthers(t *testing.T) {
	var b, want []byte
	for _, x := range puttings() {
		got, e := put(b, x.x)
		if want = join(want, x.want); e != ok || !bytes.Equal(got, want) {
			t.Fatalf("%s behind %d bytes: %d bytes, error %d", shown(x.x), len(b), len(got), e)
		}
		b = got
	}
}

// stepFields are the steps of each kind with one field set each, as set sets it.
func stepFields(set func(v reflect.Value) bool) map[string]api.Step {
	all := map[string]api.Step{}
	for kind := range 9 {
		for i := range reflect.TypeFor[api.Step]().NumField() {
			v := own(api.Step{Kind: kind - 1})
			if name := v.Type().Field(i).Name; name != "Kind" && set(v.Field(i)) {
				all[fmt.Sprint(kind-1, " ", name)] = v.Interface().(api.Step)
			}
		}
	}
	return all
}

// had tells for each kind of step which fields it has.
var had = map[int]string{1: "From To Mid", 2: "From To Gap End Insert Mid", 3: "From To Mark", 4: "From To Mark", 5: "From Name Value", 6: "From To Mid"}

func has(t api.Step, name string) bool {
	_, field, _ := strings.Cut(name, " ")
	return slices.Contains(strings.Fields(had[t.Kind]), field)
}

// A step that has something which its kind does not have can't be told; nor can one of no kind.
func TestStepsThatHaveTooMuch(t *testing.T) {
	least := func(v reflect.Value) bool {
		switch v.Kind() {
		case reflect.Int:
			v.SetInt(1)
		case reflect.String:
			v.SetString("a")
		case reflect.Slice:
			v.Set(reflect.ValueOf([]api.Token{shut}))
		case reflect.Struct:
			v.Set(reflect.ValueOf(mark("a")))
		}
		return true
	}
	attrs := func(v reflect.Value) bool {
		if v.Kind() == reflect.Struct {
			v.Set(reflect.ValueOf(mark("", attr("", ""))))
		}
		return v.Kind() == reflect.Struct
	}
	for _, set := range []func(reflect.Value) bool{least, attrs} {
		for name, x := range stepFields(set) {
			_, e := asPut(t, x)
			if (e == ok) != has(x, name) || e != ok && e != arg {
				t.Errorf("%s of %s: error %d", name, shown(x), e)
			}
		}
	}
	for kind, want := range map[int]api.Errno{0: arg, 7: arg, -1: arg, 99: arg, 1 << 20: arg, math.MinInt: arg, 1<<20 + 1: long, 1 << 32: long, 1<<32 + 1: long, math.MaxInt: long} {
		for _, x := range []api.Step{{Kind: kind}, {Kind: kind, From: 1, To: 2}, {Kind: kind, From: -1, Mid: []api.Token{shut}}} {
			if _, e := asPut(t, x); e != want {
				t.Errorf("%s: error %d, want %d", shown(x), e, want)
			}
		}
	}
}

// Each number is held against both bounds, also where the kind does not have it.
func TestNumbersOfSteps(t *testing.T) {
	for n, want := range map[int]api.Errno{0: ok, 1: ok, 127: ok, 128: ok, 16383: ok, 16384: ok, 1<<20 - 1: ok, 1 << 20: ok, 1<<20 + 1: long, 1 << 21: long, 1<<32 + 1: long, math.MaxInt: long, -1: arg, -(1 << 20): arg, math.MinInt: arg} {
		set := func(v reflect.Value) bool {
			if v.Kind() == reflect.Int {
				v.SetInt(int64(n))
			}
			return v.Kind() == reflect.Int
		}
		for name, x := range stepFields(set) {
			_, none := had[x.Kind]
			want := want
			if want == ok && (!none || n != 0 && !has(x, name)) {
				want = arg
			}
			if _, e := asPut(t, x); e != want {
				t.Errorf("%s of %s: error %d, want %d", name, shown(x), e, want)
			}
		}
	}
}

func TestTokensThatCannotBeTold(t *testing.T) {
	attrs, marks := []api.Attr{attr("a", "1")}, []api.Mark{mark("em")}
	for _, x := range []struct {
		token api.Token
		want  api.Errno
	}{
		{api.Token{Kind: api.TokOpen, Type: "p", Attrs: attrs, Marks: marks}, ok},
		{api.Token{Kind: api.TokLeaf, Type: "p", Attrs: attrs, Marks: marks}, ok},
		{api.Token{Kind: api.TokChar, Char: 'a', Marks: marks}, ok},
		{api.Token{Kind: api.TokOpen, Type: "p", Char: 1}, arg},
		{api.Token{Kind: api.TokLeaf, Type: "p", Char: 255}, arg},
		{api.Token{Kind: api.TokClose, Type: "p"}, arg},
		{api.Token{Kind: api.TokClose, Attrs: attrs}, arg},
		{api.Token{Kind: api.TokClose, Marks: marks}, arg},
		{api.Token{Kind: api.TokClose, Char: 'a'}, arg},
		{api.Token{Kind: api.TokChar, Type: "text", Char: 'a'}, arg},
		{api.Token{Kind: api.TokChar, Attrs: attrs, Char: 'a'}, arg},
		{api.Token{}, arg},
		{api.Token{Kind: 5}, arg},
		{api.Token{Kind: -1}, arg},
		{api.Token{Kind: 5, Type: "p", Attrs: attrs, Marks: marks, Char: 'a'}, arg},
		{api.Token{Kind: 1 << 20}, arg},
		{api.Token{Kind: 1<<20 + 1}, long},
		{api.Token{Kind: math.MaxInt}, long},
		{api.Token{Kind: math.MinInt}, arg},
	} {
		for _, kind := range []int{api.StepPut, api.StepWrap, api.StepSwap} {
			for _, l := range [][]api.Token{{x.token}, {shut, x.token}, {x.token, shut}} {
				if _, e := asPut(t, api.Step{Kind: kind, Mid: l}); e != x.want {
					t.Errorf("%+v: error %d, want %d", x.token, e, x.want)
				}
				asPut(t, []api.Step{{Kind: 1}, {Kind: kind, Mid: l}, {Kind: 5}})
			}
		}
	}
}

const most = 1 << 20

var (
	text20, text21 = strings.Repeat("x", most), strings.Repeat("x", most+1)
	attrs17        = make([]api.Attr, 1<<16+1)
	marks17        = make([]api.Mark, 1<<16+1)
)

// list is one with n elements, which can be told.
func list(typ reflect.Type, n int) reflect.Value {
	l := reflect.MakeSlice(typ, n, n)
	for i := range n {
		if l.Index(i).Kind() == reflect.Struct && kinded(l.Index(i)) {
			l.Index(i).FieldByName("Kind").SetInt(2) // a TokClose, or a StepWrap
		}
	}
	return l
}

// extremes are what is set at each place of a thing.
func extremes(v reflect.Value) []reflect.Value {
	var all []reflect.Value
	switch v.Kind() {
	case reflect.Int:
		for _, n := range []int{-1, 0, 1, 2, 3, 4, 5, 6, 7, 1 << 16, most, most + 1, math.MaxInt, math.MinInt} {
			all = append(all, reflect.ValueOf(n))
		}
	case reflect.Uint8:
		for _, c := range []byte{0, 1, 128, 255} {
			all = append(all, reflect.ValueOf(c))
		}
	case reflect.Bool:
		all = append(all, reflect.ValueOf(false), reflect.ValueOf(true))
	case reflect.String:
		for _, s := range []string{"", "a", "\x00", strings.Repeat("y", 128), text20, text21} {
			all = append(all, reflect.ValueOf(s))
		}
	case reflect.Slice:
		for _, n := range []int{0, 1, 300, 1<<16 + 1} {
			all = append(all, list(v.Type(), n))
		}
	}
	return all
}

// Whatever stands at each place of a thing, the bounds are held there.
func TestEachPlace(t *testing.T) {
	t.Parallel()
	var seen [5]int
	for _, x := range full() {
		for i := range spots(own(x.x)) {
			for j := range extremes(spots(own(x.x))[i]) {
				v := own(fresh(x.name))
				at := spots(v)[i]
				at.Set(extremes(at)[j])
				_, e := asPut(t, v.Interface())
				seen[e]++
			}
		}
	}
	if seen[ok] < 1000 || seen[arg] < 200 || seen[long] < 500 {
		t.Errorf("errors: %v", seen)
	}
}

// fresh is one of full, made anew.
func fresh(name string) any {
	for _, x := range full() {
		if x.name == name {
			return x.x
		}
	}
	panic(name)
}

// Two things that can't be told: what is too long counts ahead, wherever it stands.
func TestLongAheadOfWrong(t *testing.T) {
	wrongs := []api.Step{{}, {Kind: 7}, {Kind: 1, From: -1}, {Kind: 1, To: -1}, {Kind: 1, Gap: 1}, {Kind: 5, To: 1}, {Kind: 3, Name: "a"}, {Kind: 6, Mid: []api.Token{{}}}, {Kind: 2, Mid: []api.Token{shut, {Kind: 2, Char: 1}}}, {Kind: 2, Insert: math.MinInt}, {Kind: 1, Mark: mark("", attr("", text21))}, {Kind: 3, Mid: []api.Token{open(text21)}}}
	longs := []api.Step{{Kind: 1, From: most + 1}, {Kind: 1, Gap: most + 1}, {Kind: most + 1}, {Kind: 5, Value: text21}, {Kind: 1, Value: text21}, {Kind: 3, Mark: mark(text21)}, {Kind: 1, Mark: mark(text21)}, {Kind: 6, Mid: []api.Token{{Kind: most + 1}}}, {Kind: 1, Mid: []api.Token{{}, open(text21)}}, {Kind: 1, Mid: []api.Token{{Kind: 2, Type: text21}}}, {Kind: 0, To: most + 1}, {Kind: 8, Name: text21}}
	for _, w := range wrongs {
		if _, e := asPut(t, w); e != arg {
			t.Errorf("%s: error %d", shown(w), e)
		}
		for _, l := range longs {
			if _, e := asPut(t, l); e != long {
				t.Errorf("%s: error %d", shown(l), e)
			}
			for _, all := range [][]api.Step{{w, l}, {l, w}, {{Kind: 1}, w, w, {Kind: 4}, l, {Kind: 3}}} {
				if _, e := asPut(t, all); e != long {
					t.Errorf("%s and %s: error %d", shown(w), shown(l), e)
				}
			}
		}
		// Within one step, too.
		w.Value = text21
		if _, e := asPut(t, w); e != long {
			t.Errorf("%s with a Value that is too long: error %d", shown(w), e)
		}
	}
}

// Of what a kind does not have lists are looked at, but not what they hold.
func TestListsThatAKindDoesNotHave(t *testing.T) {
	inside, attrs := []api.Token{open(text21)}, []api.Attr{attr(text21, "")}
	for i, x := range []struct {
		step api.Step
		want api.Errno
	}{
		{api.Step{Kind: 3, Mid: inside}, arg},
		{api.Step{Kind: 5, Mid: inside}, arg},
		{api.Step{Kind: 0, Mid: inside}, arg},
		{api.Step{Kind: 7, Mid: inside}, arg},
		{api.Step{Kind: 1, Mid: inside}, long},
		{api.Step{Kind: 4, Mid: []api.Token{{Kind: most + 1}}}, arg},
		{api.Step{Kind: 3, Mid: make([]api.Token, 1<<16)}, arg},
		{api.Step{Kind: 3, Mid: make([]api.Token, 1<<16+1)}, long},
		{api.Step{Kind: 0, Mid: make([]api.Token, 1<<16+1)}, long},
		{api.Step{Kind: 1, Mark: mark("", attrs...)}, arg},
		{api.Step{Kind: 5, Mark: mark("a", attrs...)}, arg},
		{api.Step{Kind: 9, Mark: mark("a", attrs...)}, arg},
		{api.Step{Kind: 4, Mark: mark("a", attrs...)}, long},
		{api.Step{Kind: 1, Mark: mark("", attrs17[1:]...)}, arg},
		{api.Step{Kind: 1, Mark: mark("", attrs17...)}, long},
		{api.Step{Kind: 0, Mark: mark("", attrs17...)}, long},
		{api.Step{Kind: 1, Mark: mark(text20)}, arg},
		{api.Step{Kind: 1, Mark: mark(text21)}, long},
		{api.Step{Kind: 2, Name: text20}, arg},
		{api.Step{Kind: 2, Name: text21}, long},
		{api.Step{Kind: 1, Mid: []api.Token{{Kind: 2, Attrs: attrs}}}, arg},
		{api.Step{Kind: 1, Mid: []api.Token{{Kind: 4, Attrs: attrs}}}, arg},
		{api.Step{Kind: 1, Mid: []api.Token{{Kind: 0, Attrs: attrs}}}, arg},
		{api.Step{Kind: 1, Mid: []api.Token{{Kind: 1, Attrs: attrs}}}, long},
		{api.Step{Kind: 1, Mid: []api.Token{{Kind: 2, Marks: []api.Mark{mark(text21)}}}}, arg},
		{api.Step{Kind: 1, Mid: []api.Token{{Kind: 4, Marks: []api.Mark{mark(text21)}}}}, long},
		{api.Step{Kind: 1, Mid: []api.Token{{Kind: 5, Marks: []api.Mark{mark("", attrs17...)}}}}, arg},
		{api.Step{Kind: 1, Mid: []api.Token{{Kind: 2, Marks: marks17[1:]}}}, arg},
		{api.Step{Kind: 1, Mid: []api.Token{{Kind: 2, Marks: marks17}}}, long},
		{api.Step{Kind: 1, Mid: []api.Token{{Kind: 9, Marks: marks17}}}, long},
		{api.Step{Kind: 1, Mid: []api.Token{{Kind: 2, Attrs: attrs17[1:]}}}, arg},
		{api.Step{Kind: 1, Mid: []api.Token{{Kind: 4, Attrs: attrs17}}}, long},
		{api.Step{Kind: 1, Mid: []api.Token{{Kind: 2, Type: text20}}}, arg},
		{api.Step{Kind: 1, Mid: []api.Token{{Kind: 4, Type: text21}}}, long},
		{api.Step{Kind: 3, Mark: mark("", attr("", text21)), Mid: inside}, long},
	} {
		if _, e := asPut(t, x.step); e != x.want {
			t.Errorf("%d: error %d, want %d", i, e, x.want)
		}
	}
}

// The longest lists there may be are put, and read again; one more is too long.
func TestGreatestLists(t *testing.T) {
	t.Parallel()
	seen := map[string]int{}
	for _, x := range full() {
		for i := range spots(own(x.x)) {
			v := own(fresh(x.name))
			at := spots(v)[i]
			if x.name == "steps" && i > 0 || at.Kind() != reflect.Slice {
				continue // of the others there is one each
			}
			for n, want := range map[int]api.Errno{1 << 16: ok, 1<<16 + 1: long} {
				at.Set(list(at.Type(), n))
				_, e := asPut(t, v.Interface())
				if e != want && (e != arg || want == long) {
					t.Errorf("%s, %d of %s: error %d", x.name, n, at.Type(), e)
				}
				if e == ok {
					seen[at.Type().Elem().Name()]++
				}
			}
		}
	}
	for name, want := range map[string]int{"Attr": 30, "Mark": 10, "Node": 5, "Token": 3, "Step": 1, "string": 5, "AttrSpec": 4, "NodeType": 1, "MarkType": 1} {
		if seen[name] < want {
			t.Errorf("%d lists of %s, want %d at least", seen[name], name, want)
		}
	}
}

func TestNodesThatAreTooDeep(t *testing.T) {
	for i := range 20 {
		for _, n := range []api.Node{of("q"), {Type: "text", Text: "a"}, of("q", of("r"), of("s")), of("q", of("r", of("s")), of("t"))} {
			deep := i + 1
			for l := n.Kids; len(l) > 0; l = l[0].Kids {
				deep++
			}
			for _, x := range []api.Node{tower(n, i), of("", of("q"), tower(n, i), of("q"))} {
				want := ok
				if deep > 16 {
					want = long
				}
				if _, e := asPut(t, x); e != want {
					t.Errorf("%d deep: error %d", deep, e)
				}
				deep++
			}
		}
	}
	if _, e := asPut(t, tower(of("q"), 1000)); e != long {
		t.Errorf("1,000 deep: error %d", e)
	}
	// How deep one stands is not told by those beside it.
	wide := of("p", tower(of("q"), 14), of("q", tower(of("q"), 13), tower(of("q"), 13)), tower(of("q"), 14))
	if _, e := asPut(t, wide); e != ok {
		t.Errorf("16 deep, side by side: error %d", e)
	}
}

// A node that lies in itself is nested too deep, and the call ends.
func TestNodeWithinItself(t *testing.T) {
	kids := make([]api.Node, 1<<16)
	for i := range kids {
		kids[i].Kids = kids
	}
	if b, e := pack.Node(nil, of("p", kids...)); e != long || len(b) > 0 {
		t.Errorf("%s, error %d", shownBytes(b), e)
	}
}

// Each text is held against the bound.
func TestTextsThatAreTooLong(t *testing.T) {
	for size, want := range map[int]api.Errno{most - 1: ok, most: ok, most + 1: long, 2 * most: long} {
		s := strings.Repeat("x", size)
		for i, x := range []any{
			of(s), api.Node{Text: s}, of("p", of("q"), of(s)), api.Node{Attrs: []api.Attr{attr(s, "")}}, api.Node{Attrs: []api.Attr{attr("", s)}}, api.Node{Marks: []api.Mark{mark(s)}}, api.Node{Marks: []api.Mark{mark("", attr("", s))}},
			api.Step{Kind: 3, Mark: mark(s)}, api.Step{Kind: 5, Name: s}, api.Step{Kind: 5, Value: s}, api.Step{Kind: 6, Mid: []api.Token{open(s)}}, []api.Step{{Kind: 4, Mark: mark("", attr(s, ""))}},
			api.Schema{Types: []api.NodeType{{Name: s}}}, api.Schema{Types: []api.NodeType{{Content: s}}}, api.Schema{Types: []api.NodeType{{Groups: []string{"", s}}}}, api.Schema{Types: []api.NodeType{{Marks: []string{s}}}}, api.Schema{Types: []api.NodeType{{Attrs: []api.AttrSpec{{Name: s}}}}},
			api.Schema{Marks: []api.MarkType{{Name: s}}}, api.Schema{Marks: []api.MarkType{{Excludes: []string{s}}}}, api.Schema{Marks: []api.MarkType{{Attrs: []api.AttrSpec{{Default: s}}}}},
		} {
			if _, e := asPut(t, x); e != want {
				t.Errorf("%d, with %d bytes: error %d", i, size, e)
			}
		}
	}
}
