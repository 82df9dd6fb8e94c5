package schema_test

import (
	"math/rand"
	"reflect"
	"slices"
	"strconv"
	"strings"
	"testing"

	"copydesk/api"
	"copydesk/expr"
	"copydesk/match"
	"copydesk/schema"
)

// P5.3

func TestMade(t *testing.T) {
	for want, s := range map[string]api.Schema{
		"br doc h hr li p":    pages(),
		"top":                 small("top:"),
		"a top":               small("top:a", "a:", "b:text", "c:c"),
		"a b top":             small("top:a | b", "a:b?", "b:"),
		"top ":                small("top:a?", "a:a"),
		"c top":               small("top:c", "a:b", "b:a", "c:b*"),
		"a b c top":           small("top:a", "a:b | c", "b:a c", "c:"),
		"a b c d top":         small("top:", "a:b c", "b:c d", "c:d{3}", "d:text*"),
		"a b c d e f g h top": small("top:a", "a:b", "b:c", "c:d", "d:e", "e:f", "f:g", "g:h", "h:"),
		"z y x w v u t s top": small("top:z", "z:y", "y:x", "x:w", "w:v", "v:u", "u:t", "t:s", "s:"),
		"b d top":             small("top:", "a:b c", "b:d?", "c:a | e", "d*:text*", "e:(a | c){2,}"),
		"x* top":              small("top:x", "x*:", "y*:text x", "z*:text | y+ x"),
	} {
		names := list(strings.ReplaceAll(want, "*", ""))
		slices.Sort(names)
		if got := schema.Made(may(t, s)); !slices.Equal(got, names) {
			t.Errorf("%q, want %q", got, names)
		}
	}
}

func TestMadeOfMust(t *testing.T) {
	s := small("top:a?", "a:b", "b:", "c:a | d", "d:")
	s.Types[2].Attrs = append(spec("x", "1"), must("y")...)
	if got := schema.Made(may(t, s)); !slices.Equal(got, list("c d top")) {
		t.Errorf("%q", got)
	}
	s.Types[2].Attrs = append(spec("x", "1"), spec("y", "")...)
	if got := schema.Made(may(t, s)); !slices.Equal(got, list("a b c d top")) {
		t.Errorf("without Must: %q", got)
	}
	s.Marks = []api.MarkType{{Name: "em", Attrs: must("y")}}
	s.Types[2].Marks = list("em")
	if got := schema.Made(may(t, s)); !slices.Equal(got, list("a b c d top")) {
		t.Errorf("a mark that is Must: %q", got)
	}
}

func TestFewest(t *testing.T) {
	s := pages()
	for name, want := range map[string]string{"doc": "h", "p": "", "h": "", "li": "p", "hr": "", "br": ""} {
		if l, e := schema.Fewest(s, name); e != api.OK || !slices.Equal(l, list(want)) {
			t.Errorf("Fewest(%s) = %q, error %d", name, l, e)
		}
	}
	for _, name := range append(strangers(), "text", "em", "code") {
		if l, e := schema.Fewest(s, name); e != api.ErrNone || len(l) > 0 {
			t.Errorf("Fewest(%q) = %q, error %d", name, l, e)
		}
	}
	s.Types[h].Attrs, s.Types[li].Content = must("level"), "h"
	for _, name := range []string{"h", "li"} {
		if l, e := schema.Fewest(may(t, s), name); e != api.ErrNone || len(l) > 0 {
			t.Errorf("Fewest(%s) = %q, error %d", name, l, e)
		}
	}
	if l, e := schema.Fewest(s, "doc"); e != api.OK || !slices.Equal(l, list("hr")) {
		t.Errorf("Fewest(doc) = %q, error %d", l, e)
	}
}

func TestFewestOfContents(t *testing.T) {
	for content, want := range map[string]string{
		"":                           "",
		" ":                          "",
		"a":                          "a",
		"c | b | a":                  "a",
		"b a":                        "b a",
		"all":                        "a",
		"all{3}":                     "a a a",
		"all{0,16}":                  "",
		"all+":                       "a",
		"all* b":                     "b",
		"b{2,} all+":                 "b b a",
		"few":                        "b",
		"few few | c":                "c",
		"few few | c c":              "b b",
		"c b | b c":                  "b c",
		"b c | b b | b d":            "b b",
		"(c | b a){2} | c a":         "c a",
		"(c | b a){2} | a a a":       "c c",
		"(b a | c){2}":               "c c",
		"(b a | c c){2}":             "b a b a",
		"(b a | c c){2} a{3}":        "b a b a a a a",
		"none* b":                    "b",
		"none | b":                   "b",
		"b b b | none":               "b b b",
		"none | b b | none | b a":    "b a",
		"mixed":                      "c",
		"mixed{2} | none":            "c c",
		"none? c":                    "c",
		"(none | c) (none? | b)":     "c",
		"(none b)* a | b":            "a",
		"((a | b){2} | c{3}){2}":     "a a a a",
		"(c? b?)+":                   "",
		"(c? b)+":                    "b",
		"(a{12} | b{10}) (c | a)":    "b b b b b b b b b b a",
		"all{16} all{8}":             strings.Repeat("a ", 24),
		"itself | b b":               "itself",
		"(itself | b)+ all":          "b a",
		"all{0,2}":                   "",
		"itself":                     "no",
		"none":                       "no",
		"none+":                      "no",
		"all none":                   "no",
		"all* none all*":             "no",
		"(all | none) none{2}":       "no",
		"(none | far)":               "no",
		"text":                       "no",
		"text{2,} | br text":         "no",
		"text | br":                  "br",
		"text* br+ (text | in)":      "br br",
		"text{0,3} in{2,}":           "br br",
		"(text | br br) (in | text)": "br br br",
	} {
		// What is asked for is the Content of the type named itself; all others are there to be named by it.
		s := small("top:", "a:", "b:", "c:", "d:", "none:none", "far:none a", "itself:"+content, "br*:")
		for i, groups := range map[int]string{1: "all", 2: "all few", 3: "all few mixed", 4: "all mixed", 5: "mixed", 6: "mixed", 8: "in", 9: "in"} {
			s.Types[i].Groups = list(groups)
		}
		l, e := schema.Fewest(may(t, s), "itself")
		if want == "no" && (e != api.ErrNone || len(l) > 0) || want != "no" && (e != api.OK || !slices.Equal(l, list(want))) {
			t.Errorf("Fewest of %q: %q, error %d, want %q", content, l, e, want)
		}
		if slices.Contains(schema.Made(s), "itself") != (want != "no") {
			t.Errorf("Made of %q: %q", content, schema.Made(s))
		}
		asFilled(t, s)
	}
}

// asFilled holds Made and Fewest against match.Fill and the machines, as the words tell them, and P5.4.
func asFilled(t *testing.T, s api.Schema) {
	t.Helper()
	filled := filling(t, s)
	if got := schema.Made(s); !slices.Equal(got, filled) {
		t.Fatalf("%v: Made %q, want %q", s, got, filled)
	}
	for _, typ := range s.Types {
		l, e := schema.Fewest(s, typ.Name)
		if !slices.Contains(filled, typ.Name) {
			if e != api.ErrNone || len(l) > 0 {
				t.Fatalf("%v: Fewest(%s) = %q, error %d", s, typ.Name, l, e)
			}
			continue
		}
		a, _ := schema.Auto(s, typ.Name)
		if want, ok := match.Fill(a, 0, nil, filled); e != api.OK || !ok || !slices.Equal(l, want) || !match.Fits(a, l) {
			t.Fatalf("%v: Fewest(%s) = %q, error %d, want %q", s, typ.Name, l, e, want)
		}
	}
}

// filling are the types that can be made, rising, by the machines: in steps, of which each tells what can be made of those ahead alone.
func filling(t *testing.T, s api.Schema) []string {
	t.Helper()
	var made []string
	for {
		var more []string
		for _, typ := range s.Types {
			a, e := schema.Auto(s, typ.Name)
			if e != api.OK {
				t.Fatalf("%v: Auto(%s): error %d", s, typ.Name, e)
			}
			_, ok := match.Fill(a, 0, nil, made)
			if ok && typ.Name != "text" && !slices.ContainsFunc(typ.Attrs, func(a api.AttrSpec) bool { return a.Must }) {
				more = append(more, typ.Name)
			}
		}
		slices.Sort(more)
		if len(more) == len(made) {
			return made
		}
		made = more
	}
}

// What can be made is told soon, however many states a Content's machine has.
func TestContentsOfManyStates(t *testing.T) {
	s := small("top:block* h block{16} block{6}", "h:block* p block{16} block{6}", "p:")
	s.Types[1].Groups, s.Types[2].Groups = list("block"), list("block")
	for _, name := range letters(27) {
		s.Types = append(s.Types, api.NodeType{Name: name, Content: "(block* h block{16} block{5})?", Groups: list("block")})
	}
	if l, e := schema.Fewest(may(t, s), "top"); e != api.OK || len(l) != 23 || l[0] != "h" || l[1] != "aa" {
		t.Errorf("%q, error %d", l, e)
	}
	if l := schema.Made(s); len(l) != 30 {
		t.Errorf("Made: %q", l)
	}
	if l, e := schema.Fewest(s, "ab"); e != api.OK || len(l) != 0 || schema.Leaf(s, "ab") {
		t.Errorf("%q, error %d", l, e)
	}
}

// P5.4

// shuffled is s with its types behind the first and its marks in another order.
func shuffled(r *rand.Rand, s api.Schema) api.Schema {
	s.Types, s.Marks = slices.Clone(s.Types), slices.Clone(s.Marks)
	r.Shuffle(max(len(s.Types)-1, 0), func(i, k int) { s.Types[i+1], s.Types[k+1] = s.Types[k+1], s.Types[i+1] })
	r.Shuffle(len(s.Marks), func(i, k int) { s.Marks[i], s.Marks[k] = s.Marks[k], s.Marks[i] })
	return s
}

// alike holds against one another two schemas that are told apart by order alone.
func alike(t *testing.T, a, b api.Schema) {
	t.Helper()
	if schema.Check(a) != schema.Check(b) || !slices.Equal(schema.Made(a), schema.Made(b)) || !reflect.DeepEqual(schema.Groups(a), schema.Groups(b)) {
		t.Fatalf("%v: %d, %q, %v\n%v: %d, %q, %v", a, schema.Check(a), schema.Made(a), schema.Groups(a), b, schema.Check(b), schema.Made(b), schema.Groups(b))
	}
	for _, typ := range a.Types {
		x, e := schema.Auto(a, typ.Name)
		y, f := schema.Auto(b, typ.Name)
		if e != f || !match.Same(x, y) || len(x.States) > 0 != (e == api.OK) {
			t.Fatalf("%v\n%v: Auto(%s): %v, error %d; %v, error %d", a, b, typ.Name, x, e, y, f)
		}
		l, e := schema.Fewest(a, typ.Name)
		k, f := schema.Fewest(b, typ.Name)
		if e != f || !slices.Equal(l, k) {
			t.Fatalf("%v\n%v: Fewest(%s): %q, error %d; %q, error %d", a, b, typ.Name, l, e, k, f)
		}
	}
	if schema.Check(a) != api.OK {
		return
	}
	for i, m := range b.Marks {
		if got, rank, ok := schema.Mark(b, m.Name); !ok || rank != i || !reflect.DeepEqual(got, m) {
			t.Fatalf("%v: Mark(%s) = %v, %d, %t", b, m.Name, got, rank, ok)
		}
	}
}

func TestOrderTellsNothing(t *testing.T) {
	r := rand.New(rand.NewSource(8))
	for _, c := range append(append(these(), wrongs()...), longs()...) {
		_, s := made(c)
		for range 5 {
			alike(t, s, shuffled(r, s))
		}
	}
}

// By chance: schemas with faults here and there, held against the words.

// some are schemas of some types a to g, groups x, y, z, marks m, n, o.
func some(r *rand.Rand) api.Schema {
	faults := r.Intn(3)
	seldom := func() bool { return faults > 0 && r.Intn(60) == 0 }
	var s api.Schema
	names := strings.Split("abcdefg"[:1+r.Intn(7)], "")
	for i, name := range names {
		if seldom() {
			name = []string{"", "A", "text", "a", "x", "m", name17}[r.Intn(7)]
		}
		inline := i > 0 && r.Intn(4) == 0
		t := api.NodeType{Name: name, Inline: inline != seldom(), Groups: someOf(r, seldom, groupsOf(inline)), Marks: someOf(r, seldom, list("m n o")), Attrs: someSpecs(r, seldom)}
		if i == 0 && !seldom() {
			t.Groups, t.Attrs = nil, nil
		}
		s.Types = append(s.Types, t)
	}
	text := api.NodeType{Name: "text", Inline: !seldom(), Groups: someOf(r, seldom, list("y"))}
	if seldom() {
		text.Content = []string{" ", "text", "x", "b?"}[r.Intn(4)]
	}
	s.Types = slices.Insert(s.Types, 1+r.Intn(len(s.Types)), text)
	for i := range s.Types {
		if s.Types[i].Name != "text" {
			s.Types[i].Content = someContent(r, s, seldom)
		}
	}
	for _, name := range list("n m o") {
		excludes := slices.DeleteFunc(someOf(r, seldom, list("m n o")), func(s string) bool { return s == name && !seldom() })
		s.Marks = append(s.Marks, api.MarkType{Name: name, Excludes: excludes, Attrs: someSpecs(r, seldom)})
	}
	return s
}

func groupsOf(inline bool) []string {
	if inline {
		return list("y")
	}
	return list("x z")
}

func someOf(r *rand.Rand, seldom func() bool, l []string) []string {
	var out []string
	for _, name := range l {
		if r.Intn(2) == 0 {
			out = append(out, name)
		}
	}
	if seldom() {
		out = append(out, []string{"", "A", "a", "m", "q", "z", "text", name17}[r.Intn(8)])
	}
	return out
}

func someSpecs(r *rand.Rand, seldom func() bool) []api.AttrSpec {
	var l []api.AttrSpec
	for _, name := range list("k l") {
		if r.Intn(4) == 0 {
			l = append(l, api.AttrSpec{Name: name, Must: r.Intn(2) == 0})
		}
	}
	if seldom() {
		l = append(l, [][]api.AttrSpec{spec("A", ""), spec("a", ""), spec("z", "\n"), spec("z", strings.Repeat("1", 65)), make([]api.AttrSpec, 9)}[r.Intn(5)]...)
	}
	return l
}

// someContent names mostly types of one sort, and groups of it.
func someContent(r *rand.Rand, s api.Schema, seldom func() bool) string {
	inline := r.Intn(3) == 0
	var names []string
	for _, t := range s.Types[1:] {
		if t.Inline == inline || seldom() {
			names = append(append(names, t.Name), t.Groups...)
		}
	}
	if seldom() {
		names = append(names, "q", "x", "y", s.Types[0].Name, name17, ")")
	}
	if len(names) == 0 || r.Intn(5) == 0 {
		return strings.Repeat(" ", r.Intn(2))
	}
	var parts []string
	for range 1 + r.Intn(3) {
		parts = append(parts, names[r.Intn(len(names))]+[]string{"", "", "*", "+", "?", "{2}"}[r.Intn(6)]+[]string{" ", " ", " | "}[r.Intn(3)])
	}
	return strings.TrimRight(strings.Join(parts, ""), "| ")
}

// byWords tells whether s may be, as the words tell it one by one.
func byWords(s api.Schema) bool {
	if len(s.Types) < 1 || len(s.Types) > 32 || len(s.Marks) > 16 {
		return false
	}
	types, groups, marks := map[string]api.NodeType{}, map[string][]string{}, map[string]bool{}
	for _, t := range s.Types {
		types[t.Name] = t
	}
	for _, m := range s.Marks {
		marks[m.Name] = true
	}
	if len(types) < len(s.Types) || len(marks) < len(s.Marks) || !types["text"].Inline {
		return false
	}
	for _, t := range s.Types {
		for i, group := range t.Groups {
			if _, ok := types[group]; ok || !aName(group) || i > 0 && t.Groups[i-1] >= group {
				return false
			}
			groups[group] = append(groups[group], t.Name)
		}
		if !aName(t.Name) || !specsMay(t.Attrs) || !marksMay(t.Marks, marks) {
			return false
		}
	}
	for _, m := range s.Marks {
		if !aName(m.Name) || !specsMay(m.Attrs) || !marksMay(m.Excludes, marks) || slices.Contains(m.Excludes, m.Name) {
			return false
		}
	}
	if text := types["text"]; text.Content != "" || len(text.Attrs)+len(text.Marks) > 0 {
		return false
	}
	if top := s.Types[0]; top.Inline || len(top.Attrs)+len(top.Groups) > 0 {
		return false
	}
	return contentsMay(s, types, groups)
}

func aName(s string) bool {
	return len(s) >= 1 && len(s) <= 16 && strings.Trim(s, "abcdefghijklmnopqrstuvwxyz") == ""
}

func specsMay(l []api.AttrSpec) bool {
	for i, a := range l {
		if !aName(a.Name) || i > 0 && l[i-1].Name >= a.Name || len(a.Default) > 64 || strings.Contains(a.Default, "\n") || a.Must && a.Default != "" {
			return false
		}
	}
	return len(l) <= 8
}

func marksMay(l []string, marks map[string]bool) bool {
	for i, name := range l {
		if !marks[name] || i > 0 && l[i-1] >= name {
			return false
		}
	}
	return true
}

// contentsMay tells whether all Contents may be, and the top can be made, by machines whose groups are told in the text.
func contentsMay(s api.Schema, types map[string]api.NodeType, groups map[string][]string) bool {
	autos := map[string]api.Auto{}
	for _, t := range s.Types {
		e, _, err := expr.Parse(t.Content)
		if err != api.OK {
			return false
		}
		var l []api.Group
		for name, of := range groups {
			l = append(l, api.Group{Name: name, Types: slices.Sorted(slices.Values(of))})
		}
		autos[t.Name], err = match.Make(e, l)
		if err != api.OK {
			return false
		}
		var inline, block bool
		for i := range autos[t.Name].States {
			for _, name := range match.Types(autos[t.Name], i) {
				typ, ok := types[name]
				if !ok || name == s.Types[0].Name {
					return false
				}
				inline, block = inline || typ.Inline, block || !typ.Inline
			}
		}
		if inline && block {
			return false
		}
	}
	return topMade(s, autos)
}

func topMade(s api.Schema, autos map[string]api.Auto) bool {
	var made []string
	for range s.Types {
		for _, t := range s.Types {
			if _, ok := match.Fill(autos[t.Name], 0, nil, made); ok && t.Name != "text" && !slices.ContainsFunc(t.Attrs, func(a api.AttrSpec) bool { return a.Must }) {
				made = append(made, t.Name)
			}
		}
	}
	return slices.Contains(made, s.Types[0].Name)
}

// asTold holds all of s against the words.
func asTold(t *testing.T, s api.Schema) bool {
	t.Helper()
	want := api.OK
	switch {
	case toLong(s):
		want = api.ErrLong
	case !byWords(s):
		want = api.ErrArg
	}
	if got := schema.Check(s); got != want {
		t.Fatalf("%+v: error %d, want %d", s, got, want)
	}
	if want == api.OK {
		asFilled(t, s)
		return true
	}
	silent(t, "by chance", s)
	return false
}

func TestSchemasByChance(t *testing.T) {
	r := rand.New(rand.NewSource(9))
	count, few := 0, 0
	for range 3000 {
		s := some(r)
		if asTold(t, s) {
			count++
			if len(schema.Made(s)) < len(s.Types)-1 {
				few++
			}
		}
		alike(t, s, shuffled(r, s))
	}
	if count < 800 || count > 2200 || few < 200 {
		t.Errorf("%d of them may be, in %d of which something can't be made", count, few)
	}
}

func TestTheSameEachTime(t *testing.T) {
	s := pages()
	s.Types[br].Groups, s.Types[hr].Groups = list("a b c d e f g inline"), list("block t u v w x y z")
	groups, made := schema.Groups(may(t, s)), schema.Made(s)
	for range 50 {
		if !reflect.DeepEqual(schema.Groups(s), groups) || !slices.Equal(schema.Made(s), made) {
			t.Fatal(schema.Groups(s), schema.Made(s))
		}
	}
}

// read makes a schema of a text: a line for a type, or for a mark behind a !, with name, Content, Groups, Marks, Attrs between ;.
func read(text string) api.Schema {
	var s api.Schema
	for _, line := range strings.Split(text, "\n") {
		parts := append(strings.Split(line, ";"), "", "", "", "")
		var attrs []api.AttrSpec
		for _, name := range list(parts[4]) {
			plain := strings.TrimSuffix(name, "!")
			attrs = append(attrs, api.AttrSpec{Name: plain, Must: plain != name})
		}
		name, inline := strings.CutSuffix(parts[0], "*")
		if mark, ok := strings.CutPrefix(name, "!"); ok {
			s.Marks = append(s.Marks, api.MarkType{Name: mark, Excludes: list(parts[3]), Attrs: attrs})
			continue
		}
		s.Types = append(s.Types, api.NodeType{Name: name, Inline: inline, Content: parts[1], Groups: list(parts[2]), Marks: list(parts[3]), Attrs: attrs})
	}
	return s
}

func FuzzCheck(f *testing.F) {
	f.Add("doc;block+\np;inline*;block;code em\nh;text*;block;em;level\nli;p block*;block\nhr;;block\nbr*;;inline\ntext*;;inline\n!em\n!code;;;em")
	f.Add("top;a | b;;;\na;a;;;k!\nb;\ntext*")
	f.Add("text*\ntop;a{2}\na*;text?;x y")
	f.Fuzz(func(t *testing.T, text string) {
		s := read(text)
		for _, typ := range s.Types {
			// The test's own machines are asked for each Content, so that these may not be great.
			if e, _, err := expr.Parse(typ.Content); err == api.OK && expr.Size(e) > 8 {
				return
			}
		}
		asTold(t, s)
		alike(t, s, shuffled(rand.New(rand.NewSource(1)), s))
	})
}

// The most types, each of which needs the next one alone.
func TestFarSteps(t *testing.T) {
	for _, falls := range []bool{false, true} {
		names := letters(30)
		if falls {
			slices.Reverse(names)
		}
		s := small("top:" + names[0])
		for i, name := range names {
			s.Types = append(s.Types, api.NodeType{Name: name, Content: strings.Join(names[i+1:min(i+2, 30)], "")})
		}
		if l := schema.Made(may(t, s)); len(l) != 31 {
			t.Errorf("%d can be made", len(l))
		}
		for i, name := range names[:29] {
			if l, e := schema.Fewest(s, name); e != api.OK || !slices.Equal(l, names[i+1:i+2]) {
				t.Errorf("Fewest(%s) = %q, error %d", name, l, e)
			}
		}
		s.Types[len(s.Types)-1].Content = "text"
		if schema.Check(s) != api.ErrArg {
			t.Error("the last one needs text: " + strconv.Itoa(int(schema.Check(s))))
		}
	}
}
