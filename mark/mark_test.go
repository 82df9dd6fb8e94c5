package mark_test

import (
	"slices"
	"strconv"
	"strings"
	"testing"

	"copydesk/api"
	"copydesk/attr"
	"copydesk/mark"
)

// wrong is a schema that may not be, and what Check tells of it.
type wrong struct {
	what string
	s    api.Schema
	want api.Errno
}

// wrongs are schemas that may not be, but have em and code, as far as the fault lets them.
func wrongs() []wrong {
	l := []wrong{{"nothing", api.Schema{}, api.ErrArg}}
	add := func(what string, want api.Errno, do func(s *api.Schema)) {
		s := pages()
		do(&s)
		l = append(l, wrong{what, s, want})
	}
	add("marks alone", api.ErrArg, func(s *api.Schema) { s.Types = nil })
	add("no text", api.ErrArg, func(s *api.Schema) { s.Types = s.Types[:6] })
	add("a top that can't be made", api.ErrArg, func(s *api.Schema) { s.Types[0].Content = "text" })
	add("a Content that can't be read", api.ErrArg, func(s *api.Schema) { s.Types[3].Content = "p (" })
	add("a type twice", api.ErrArg, func(s *api.Schema) { s.Types = append(s.Types, s.Types[4]) })
	add("a type's Marks that fall", api.ErrArg, func(s *api.Schema) { s.Types[1].Marks = list("em code") })
	add("a mark twice", api.ErrArg, func(s *api.Schema) { s.Marks = append(s.Marks, s.Marks[0]) })
	add("a mark without a name", api.ErrArg, func(s *api.Schema) { s.Marks = append(s.Marks, api.MarkType{}) })
	add("a mark that excludes itself", api.ErrArg, func(s *api.Schema) { s.Marks[0].Excludes = list("em") })
	add("a mark that excludes none that is there", api.ErrArg, func(s *api.Schema) { s.Marks[0].Excludes = list("x") })
	add("Excludes that fall", api.ErrArg, func(s *api.Schema) {
		s.Marks = append(s.Marks, api.MarkType{Name: "b", Excludes: list("em code")})
	})
	add("a mark's attributes that fall", api.ErrArg, func(s *api.Schema) {
		s.Marks[0].Attrs = []api.AttrSpec{{Name: "b"}, {Name: "a"}}
	})
	add("a type's Name of 17", api.ErrLong, func(s *api.Schema) { s.Types[4].Name = name17 })
	add("a mark's Name of 17", api.ErrLong, func(s *api.Schema) { s.Marks = append(s.Marks, api.MarkType{Name: name17}) })
	add("an Excludes of 17", api.ErrLong, func(s *api.Schema) { s.Marks[0].Excludes = []string{name17} })
	add("a Default of 65", api.ErrLong, func(s *api.Schema) {
		s.Marks[1].Attrs = []api.AttrSpec{{Name: "a", Default: strings.Repeat("x", 65)}}
	})
	add("33 Types", api.ErrLong, func(s *api.Schema) { s.Types = append(s.Types, make([]api.NodeType, 26)...) })
	add("17 Marks", api.ErrLong, func(s *api.Schema) { s.Marks = append(s.Marks, of(letters(15)...).Marks...) })
	add("17 Marks, and no text", api.ErrLong, func(s *api.Schema) {
		s.Types, s.Marks = s.Types[:6], append(s.Marks, of(letters(15)...).Marks...)
	})
	add("1,000 Marks", api.ErrLong, func(s *api.Schema) { s.Marks = append(s.Marks, make([]api.MarkType, 998)...) })
	return l
}

// odd are lists of marks, sets of pages and others.
func odd() []string {
	return []string{"", "em", "code", "em code", "code em", "em em", "x", "em:a=1", "x em code p"}
}

// P6.1 and P6.2, of schemas that may not be

func TestOfASchemaThatMayNotBe(t *testing.T) {
	for _, w := range wrongs() {
		if n := mark.Sets(w.s); n != 0 {
			t.Errorf("%s: %d sets", w.what, n)
		}
		for _, text := range odd() {
			l := marks(text)
			if e := mark.Check(w.s, l); e != w.want {
				t.Errorf("%s: Check of %q: error %d, want %d", w.what, text, e, w.want)
			}
			for _, typ := range list("doc p h hr text x " + name17) {
				if got := mark.Allowed(w.s, typ, l); got != (len(l) == 0) {
					t.Errorf("%s: Allowed by %s of %q: %t", w.what, typ, text, got)
				}
			}
			for _, m := range marks("em code x p em:a=1 " + name17) {
				if mark.Fits(w.s, m) {
					t.Errorf("%s: %s fits", w.what, m.Type)
				}
				if got, e := mark.Add(w.s, l, m); e != w.want || len(got) > 0 {
					t.Errorf("%s: Add of %s to %q: %s, error %d, want %d", w.what, m.Type, text, shown(got), e, w.want)
				}
			}
		}
	}
}

// P6.1

// misfits are attributes that do not fit the specs href (Must) and title of the mark a, in each way that chapter 2 names.
func misfits() map[string][]api.Attr {
	href, title := api.Attr{Name: "href", Value: "x"}, api.Attr{Name: "title", Value: "y"}
	with := func(l ...api.Attr) []api.Attr { return l }
	return map[string][]api.Attr{
		"none":                         nil,
		"one that is not told":         with(title),
		"one that has a Default":       with(href),
		"that fall":                    with(title, href),
		"one twice":                    with(href, title, title),
		"one more behind":              with(href, title, api.Attr{Name: "z"}),
		"one more ahead":               with(api.Attr{Name: "a"}, href, title),
		"one more between":             with(href, api.Attr{Name: "i"}, title),
		"another one":                  with(href, api.Attr{Name: "titles", Value: "y"}),
		"one with great letters":       with(href, api.Attr{Name: "Title", Value: "y"}),
		"one without a Name":           with(api.Attr{Value: "x"}, title),
		"a Name of 17":                 with(href, api.Attr{Name: "title" + strings.Repeat("e", 12)}),
		"a Value of 65":                with(api.Attr{Name: "href", Value: strings.Repeat("x", 65)}, title),
		"a Value with a byte 10":       with(href, api.Attr{Name: "title", Value: "a\nb"}),
		"a Value with a byte 31":       with(href, api.Attr{Name: "title", Value: "\x1f"}),
		"a Value with a byte 127":      with(api.Attr{Name: "href", Value: "\x7f"}, title),
		"a Value with a letter beyond": with(api.Attr{Name: "href", Value: "\u00e4"}, title),
		"9":                            append(with(href), slices.Repeat(with(title), 8)...),
	}
}

func TestFits(t *testing.T) {
	s := may(t, links())
	full := api.Mark{Type: "a", Attrs: []api.Attr{{Name: "href", Value: strings.Repeat("~", 64)}, {Name: "title", Value: strings.Repeat(" ", 64)}}}
	for _, m := range append(marks("em sub sup code b a:href=x,title=y a:href=,title= cite:by=z"), full, api.Mark{Type: "em", Attrs: []api.Attr{}}) {
		if !mark.Fits(s, m) {
			t.Errorf("%s does not fit", shown([]api.Mark{m}))
		}
	}
	for _, m := range marks("x e emm Em top text href p em:href=x em:by=z cite cite:by=1,href=2 cite:href=1 a:by=x b:= " + name16 + " " + name17) {
		if mark.Fits(s, m) {
			t.Errorf("%s fits", shown([]api.Mark{m}))
		}
	}
	for what, l := range misfits() {
		if mark.Fits(s, api.Mark{Type: "a", Attrs: l}) {
			t.Errorf("%s fits", what)
		}
	}
	if mark.Fits(s, api.Mark{}) || mark.Fits(may(t, of()), mk("em")) || mark.Fits(s, mk("\xff")) {
		t.Error("no mark at all fits")
	}
	if s := may(t, of(name16)); !mark.Fits(s, mk(name16)) || mark.Fits(s, mk(name17)) {
		t.Error("a Name of 16")
	}
}

// A mark's type is told by its Name alone, where a type of nodes has the same one, too.
func TestMarksNamedAsTypes(t *testing.T) {
	s := may(t, of("text", "top > text ; top"))
	if !mark.Fits(s, mk("text")) || !mark.Fits(s, mk("top:top=1")) || mark.Fits(s, mk("top")) || mark.Sets(s) != 3 {
		t.Error("marks that are named as types")
	}
	if l, e := mark.Add(s, marks("text"), mk("top:top=1")); e != api.OK || !same(l, marks("top:top=1")) {
		t.Error(shown(l), e)
	}
}

func TestCheck(t *testing.T) {
	s := may(t, links())
	for text, want := range map[string]api.Errno{
		"":                                 api.OK,
		"em":                               api.OK,
		"cite:by=1":                        api.OK,
		"em a:href=x,title=y":              api.OK,
		"em a:href=x,title=y sub b":        api.OK,
		"em a:href=,title= sup b cite:by=": api.OK,
		"code b cite:by=z":                 api.OK,

		"x":                    api.ErrArg,
		"em x":                 api.ErrArg,
		"x em":                 api.ErrArg,
		"text":                 api.ErrArg,
		"em:href=x":            api.ErrArg,
		"cite":                 api.ErrArg,
		"em cite":              api.ErrArg,
		"cite em":              api.ErrArg,
		"em b:by=1 cite:by=1":  api.ErrArg,
		"em em":                api.ErrArg,
		"em b b":               api.ErrArg,
		"em b em":              api.ErrArg,
		"cite:by=1 cite:by=2":  api.ErrArg,
		"b em":                 api.ErrArg,
		"em b sub":             api.ErrArg,
		"em b a:href=x,title=": api.ErrArg,
		"cite:by=1 b":          api.ErrArg,

		"em code":                            api.ErrArg,
		"code em":                            api.ErrArg,
		"em b code":                          api.ErrArg,
		"em sup code b":                      api.ErrArg,
		"a:href=x,title=y code":              api.ErrArg,
		"a:href=x,title=y sub code b":        api.ErrArg,
		"sub sup":                            api.ErrArg,
		"em sub sup b":                       api.ErrArg,
		"em a:href=,title= sub sup":          api.ErrArg,
		name16:                               api.ErrArg,
		name17:                               api.ErrArg,
		"cite:by=" + strings.Repeat("1", 64): api.OK,
		"cite:by=" + strings.Repeat("1", 65): api.ErrArg,
	} {
		if e := mark.Check(s, marks(text)); e != want {
			t.Errorf("%q: error %d, want %d", text, e, want)
		}
	}
	for what, l := range misfits() {
		if e := mark.Check(s, []api.Mark{mk("em"), {Type: "a", Attrs: l}, mk("b")}); e != api.ErrArg {
			t.Errorf("attributes with %s: error %d", what, e)
		}
	}
	if mark.Check(s, []api.Mark{}) != api.OK || mark.Check(s, []api.Mark{{}}) != api.ErrArg || mark.Check(may(t, of()), nil) != api.OK || mark.Check(of(), marks("em")) != api.ErrArg {
		t.Error("of nothing")
	}
}

// Two exclude one another, whichever of them it is that has the other one among its Excludes.
func TestCheckOfTwoThatExcludeOneAnother(t *testing.T) {
	for text, want := range map[string]api.Errno{"aa | bb": api.OK, "aa > bb | bb": api.ErrArg, "aa | bb > aa": api.ErrArg, "aa > bb | bb > aa": api.ErrArg} {
		s := may(t, of(strings.Split(text, " | ")...))
		if e := mark.Check(s, marks("aa bb")); e != want {
			t.Errorf("%s: error %d, want %d", text, e, want)
		}
		for _, one := range []string{"", "aa", "bb"} {
			if e := mark.Check(s, marks(one)); e != api.OK {
				t.Errorf("%s: %s alone: error %d", text, one, e)
			}
		}
		if e := mark.Check(s, marks("bb aa")); e != api.ErrArg {
			t.Errorf("%s: turned round: error %d", text, e)
		}
	}
}

func TestCheckOf16(t *testing.T) {
	names := strings.Join(letters(16), " ")
	s := may(t, wide(16, never))
	if e := mark.Check(s, marks(names)); e != api.OK {
		t.Errorf("16 marks: error %d", e)
	}
	for i, name := range letters(16) {
		l := marks(names)
		l[i].Attrs = []api.Attr{{Name: "a"}}
		if e := mark.Check(s, l); e != api.ErrArg {
			t.Errorf("of 16, %s does not fit: error %d", name, e)
		}
		if e := mark.Check(s, append(marks(names), mk(name))); e != api.ErrArg {
			t.Errorf("of 17, %s twice: error %d", name, e)
		}
		if e := mark.Check(s, append(marks(name), marks(names)...)); e != api.ErrArg {
			t.Errorf("of 17, %s ahead: error %d", name, e)
		}
		if e := mark.Check(may(t, wide(16, always)), marks(name)); e != api.OK {
			t.Errorf("%s alone: error %d", name, e)
		}
		for j, other := range letters(16) {
			// One pair alone excludes one another.
			one := may(t, wide(16, func(x, y int) bool { return x == i && y == j }))
			want := api.OK
			if i != j {
				want = api.ErrArg
			}
			if e := mark.Check(one, marks(names)); e != want {
				t.Errorf("of 16, %s excludes %s: error %d", name, other, e)
			}
		}
	}
	if e := mark.Check(s, slices.Repeat(marks(names), 1000)); e != api.ErrArg {
		t.Errorf("16,000 marks: error %d", e)
	}
}

func TestAdd(t *testing.T) {
	s := may(t, links())
	for _, x := range []struct{ what, l, m, want string }{
		{"to nothing", "", "em", "em"},
		{"to nothing, the last", "", "cite:by=1", "cite:by=1"},
		{"ahead of all", "b cite:by=1", "em", "em b cite:by=1"},
		{"behind all", "em b", "cite:by=1", "em b cite:by=1"},
		{"between", "em cite:by=1", "b", "em b cite:by=1"},
		{"between, with attributes", "em sub b", "a:href=x,title=y", "em a:href=x,title=y sub b"},
		{"what is there", "em b", "em", "em b"},
		{"what is there alone", "em", "em", "em"},
		{"what is there, with the same attributes", "em a:href=x,title=y b", "a:href=x,title=y", "em a:href=x,title=y b"},
		{"what is there, with other attributes", "em a:href=x,title=y b", "a:href=x,title=z", "em a:href=x,title=z b"},
		{"what is there alone, with other attributes", "cite:by=1", "cite:by=", "cite:by="},
		{"what excludes some", "em sub b", "code", "sub code b"},
		{"what excludes several", "em a:href=x,title=y sub b cite:by=1", "code", "sub code b cite:by=1"},
		{"what excludes all", "em a:href=x,title=y", "code", "code"},
		{"what excludes the only one", "em", "code", "code"},
		{"what excludes none that is there", "sub b", "code", "sub code b"},
		{"what excludes others, and is there", "sub code b", "code", "sub code b"},
		{"what one that is left excludes", "code", "em", "code"},
		{"what one that is left excludes, with attributes", "sub code b", "a:href=x,title=y", "sub code b"},
		{"what one that is left excludes, among others", "sup code b cite:by=1", "em", "sup code b cite:by=1"},
		{"what one that goes excludes", "sub", "sup", "sup"},
		{"what one that goes excludes, the other way round", "em sup b", "sub", "em sub b"},
	} {
		l, e := mark.Add(s, marks(x.l), mk(x.m))
		if e != api.OK || !same(l, marks(x.want)) {
			t.Errorf("%s: %s to %q: %s, error %d, want %s", x.what, x.m, x.l, shown(l), e, x.want)
		}
	}
}

// Of three, what is added excludes one that is there, and is excluded by another one that is: nothing goes.
func TestAddWhatExcludesAndIsExcluded(t *testing.T) {
	for _, x := range []struct{ what, s, l, m, want string }{
		{"left behind", "aa | bb > aa | cc > bb", "aa cc", "bb", "aa cc"},
		{"left ahead", "aa > bb | bb > cc | cc", "aa cc", "bb", "aa cc"},
		{"goes and is left", "aa > bb | bb > aa | cc > bb", "aa cc", "bb", "aa cc"},
		{"both go", "aa > bb | bb > aa cc | cc > bb", "aa cc", "bb", "bb"},
		{"the one goes that excludes it", "aa > bb | bb > aa | cc", "aa cc", "bb", "bb cc"},
		{"one that is not there excludes it", "aa | bb | cc > bb", "aa", "bb", "aa bb"},
		{"it excludes one that is not there", "aa | bb > cc | cc", "aa", "bb", "aa bb"},
		{"the last is left", "aa | bb > aa | cc | dd > bb", "aa cc dd", "bb", "aa cc dd"},
		{"the first is left", "aa > dd | bb | cc | dd > bb cc", "aa bb cc", "dd", "aa bb cc"},
	} {
		s := may(t, of(strings.Split(x.s, " | ")...))
		if l, e := mark.Add(s, marks(x.l), mk(x.m)); e != api.OK || !same(l, marks(x.want)) {
			t.Errorf("%s: %s, error %d, want %s", x.what, shown(l), e, x.want)
		}
	}
}

func TestAddOf16(t *testing.T) {
	names := letters(16)
	free, apart := may(t, wide(16, never)), may(t, wide(16, always))
	up := may(t, wide(16, func(i, j int) bool { return i > j }))
	for i, name := range names {
		rest := slices.Delete(slices.Clone(names), i, i+1)
		for _, l := range [][]string{rest, names} {
			if got, e := mark.Add(free, marks(strings.Join(l, " ")), mk(name)); e != api.OK || !same(got, marks(strings.Join(names, " "))) {
				t.Errorf("%s to %q: %s, error %d", name, l, shown(got), e)
			}
		}
		for j, other := range names {
			if got, e := mark.Add(apart, marks(other), mk(name)); e != api.OK || !same(got, marks(name)) {
				t.Errorf("%s to %s: %s, error %d", name, other, shown(got), e)
			}
			// The higher one excludes the lower one.
			if got, e := mark.Add(up, marks(other), mk(name)); e != api.OK || !same(got, marks(names[max(i, j)])) {
				t.Errorf("%s to the lower or higher %s: %s, error %d", name, other, shown(got), e)
			}
		}
	}
	last := wide(16, func(i, j int) bool { return i == 15 })
	if got, e := mark.Add(may(t, last), marks(strings.Join(names[:15], " ")), mk(names[15])); e != api.OK || !same(got, marks(names[15])) {
		t.Errorf("one that excludes 15: %s, error %d", shown(got), e)
	}
}

// The first error that applies is told: of the schema, of l, of m's Type, of m.
func TestTheOrderOfAddsErrors(t *testing.T) {
	s := may(t, links())
	for _, l := range []string{"x", "b em", "em em", "em code", "cite", "sub sup", "em:a=1"} {
		for _, m := range marks("em x a a:href=x,title=y code cite em:a=1 " + name17) {
			if got, e := mark.Add(s, marks(l), m); e != api.ErrArg || len(got) > 0 {
				t.Errorf("%s to %q, which is no set: %s, error %d", m.Type, l, shown(got), e)
			}
		}
	}
	for _, l := range []string{"", "em", "sub code b", "em b cite:by=1"} {
		for _, m := range append(marks("x text top href Em e x:a=1 x:A=1 "+name17+" "+name17+":b=1"), api.Mark{}, api.Mark{Type: "x", Attrs: make([]api.Attr, 9)}) {
			if got, e := mark.Add(s, marks(l), m); e != api.ErrNone || len(got) > 0 {
				t.Errorf("%s, which is none, to %q: %s, error %d", m.Type, l, shown(got), e)
			}
		}
		for _, m := range marks("a a:href=x em:a=1 cite cite:by=1,x=2 code:by=1 b:=") {
			if got, e := mark.Add(s, marks(l), m); e != api.ErrArg || len(got) > 0 {
				t.Errorf("%s, which does not fit, to %q: %s, error %d", shown([]api.Mark{m}), l, shown(got), e)
			}
		}
		for what, attrs := range misfits() {
			if got, e := mark.Add(s, marks(l), api.Mark{Type: "a", Attrs: attrs}); e != api.ErrArg || len(got) > 0 {
				t.Errorf("attributes with %s to %q: %s, error %d", what, l, shown(got), e)
			}
		}
	}
	if got, e := mark.Add(may(t, of()), nil, mk("em")); e != api.ErrNone || len(got) > 0 {
		t.Errorf("of no marks: %s, error %d", shown(got), e)
	}
}

// The pages' examples.
func TestTheExamples(t *testing.T) {
	s := may(t, pages())
	for _, x := range [][3]string{{"", "em", "em"}, {"em", "code", "code"}, {"code", "em", "code"}} {
		if l, e := mark.Add(s, marks(x[0]), mk(x[1])); e != api.OK || !same(l, marks(x[2])) {
			t.Errorf("Add of %s to %q: %s, error %d", x[1], x[0], shown(l), e)
		}
	}
	if e := mark.Check(s, marks("code em")); e != api.ErrArg {
		t.Errorf("Check: error %d", e)
	}
	if mark.Allowed(s, "h", marks("code")) || mark.Sets(s) != 3 {
		t.Errorf("Allowed, or %s sets", strconv.Itoa(mark.Sets(s)))
	}
}

// What fits is told by attr.Fits of the specs, for each of some marks.
func TestFitsAsAttrsDo(t *testing.T) {
	s := may(t, links())
	for _, typ := range s.Marks {
		for _, other := range s.Marks {
			var l []api.Attr
			for _, spec := range other.Attrs {
				l = append(l, api.Attr{Name: spec.Name, Value: "1"})
			}
			if got := mark.Fits(s, api.Mark{Type: typ.Name, Attrs: l}); got != attr.Fits(typ.Attrs, l) || got != (len(l) == len(typ.Attrs) && (len(l) == 0 || typ.Name == other.Name)) {
				t.Errorf("%s with what %s has: %t", typ.Name, other.Name, got)
			}
		}
	}
}
