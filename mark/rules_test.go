package mark_test

import (
	"reflect"
	"slices"
	"testing"

	"copydesk/api"
	"copydesk/mark"
)

// What is handed in, and what is answered (Rules, 3, 4, 6).

// roomy is l with more behind it that none of it may tell.
func roomy[T any](l []T, more ...T) []T {
	return append(append(make([]T, 0, len(l)+len(more)), l...), more...)[:len(l)]
}

// spacious are marks with wrong things in all spare room.
func spacious(text string) []api.Mark {
	l := marks(text)
	for i := range l {
		l[i].Attrs = roomy(l[i].Attrs, api.Attr{Name: "zz", Value: "\n"}, api.Attr{Name: name17})
	}
	return roomy(l, mk("em"), mk(name17), mk("a"))
}

func spaciousLinks() api.Schema {
	s := links()
	for i := range s.Types {
		s.Types[i].Marks = roomy(s.Types[i].Marks, "em", "zz")
		s.Types[i].Groups = roomy(s.Types[i].Groups, "em", "zz")
	}
	for i := range s.Marks {
		s.Marks[i].Excludes = roomy(s.Marks[i].Excludes, "b", "zz")
		s.Marks[i].Attrs = roomy(s.Marks[i].Attrs, api.AttrSpec{Name: "zz"}, api.AttrSpec{Name: name17})
	}
	s.Types = roomy(s.Types, api.NodeType{Name: "zz"})
	s.Marks = roomy(s.Marks, api.MarkType{Name: "zz"}, api.MarkType{Name: "zz"})
	return s
}

// full is l with its spare room, and that of its marks.
func full(l []api.Mark) []api.Mark {
	l = slices.Clone(l[:cap(l)])
	for i, m := range l {
		l[i].Attrs = slices.Clone(m.Attrs[:cap(m.Attrs)])
	}
	return l
}

// spoil overwrites all of l, its spare room too.
func spoil(l []api.Mark) {
	for i := range l {
		clear(l[i].Attrs[:cap(l[i].Attrs)])
	}
	clear(l[:cap(l)])
}

// answers are all lists of marks that the calls answer for l and m.
func answers(s api.Schema, l []api.Mark, m api.Mark) [][]api.Mark {
	added, _ := mark.Add(s, l, m)
	found, _ := mark.Find(l, m.Type)
	mark.Check(s, l)
	mark.Fits(s, m)
	mark.Allowed(s, "top", l)
	mark.Compare(l, []api.Mark{m})
	mark.Sets(s)
	return [][]api.Mark{added, mark.Remove(l, m), {found}}
}

func TestWhatIsHandedInStays(t *testing.T) {
	for _, text := range []string{"", "em", "em a:href=x,title=y sub b cite:by=1", "sub code b cite:by=1", "em em", "code em cite:by=1"} {
		for _, one := range []string{"em", "code", "b", "sup", "cite:by=1", "cite:by=2", "a:href=x,title=y", "a:href=,title=", "x", "cite"} {
			s, l, m := spaciousLinks(), spacious(text), spacious(one)
			for _, got := range answers(s, l, m[0]) {
				spoil(got)
			}
			if !reflect.DeepEqual(full(l), full(spacious(text))) || !reflect.DeepEqual(full(m), full(spacious(one))) || !reflect.DeepEqual(s, spaciousLinks()) {
				t.Errorf("%s and %q: now %s", one, text, shown(full(l)))
			}
			for i, typ := range s.Marks[:cap(s.Marks)] {
				if want := spaciousLinks().Marks; !reflect.DeepEqual(typ.Excludes[:cap(typ.Excludes)], want[:cap(want)][i].Excludes[:cap(typ.Excludes)]) {
					t.Errorf("%s excludes %q", typ.Name, typ.Excludes[:cap(typ.Excludes)])
				}
			}
		}
	}
}

func TestSpareRoomIsNotRead(t *testing.T) {
	s := spaciousLinks()
	for _, text := range []string{"", "em", "em a:href=x,title=y sub b cite:by=1", "sub code b cite:by=1"} {
		for _, one := range []string{"em", "code", "b", "sup", "cite:by=1", "cite:by=2", "a:href=x,title=y", "x", "cite"} {
			got, want := answers(s, spacious(text), spacious(one)[0]), answers(links(), marks(text), mk(one))
			if !slices.EqualFunc(got, want, same) || mark.Check(s, spacious(text)) != mark.Check(links(), marks(text)) {
				t.Errorf("%s and %q: %v, want %v", one, text, got, want)
			}
		}
	}
	if n := mark.Sets(s); n != 60 {
		t.Errorf("%d sets", n)
	}
}

func TestAnswersAreNewMemory(t *testing.T) {
	for _, text := range []string{"", "em a:href=x,title=y sub b cite:by=1", "sub code b cite:by=1"} {
		for _, one := range []string{"em", "code", "b", "cite:by=2", "a:href=y,title=y", "x"} {
			s, l, m := spaciousLinks(), spacious(text), spacious(one)
			got, want := answers(s, l, m[0]), answers(links(), marks(text), mk(one))
			spoil(l)
			spoil(m)
			for i := range s.Marks {
				clear(s.Marks[i].Attrs)
				clear(s.Marks[i].Excludes)
			}
			clear(s.Marks)
			clear(s.Types)
			// Spare room of an answer is nobody else's: what is put there is not seen in any other list.
			for _, l := range got {
				_ = append(l, mk("y"), mk("y"))
				for _, m := range l {
					_ = append(m.Attrs, api.Attr{Name: "y"}, api.Attr{Name: "y"}, api.Attr{Name: "y"})
				}
			}
			if !slices.EqualFunc(got, want, same) {
				t.Errorf("%s and %q: %v, want %v", one, text, got, want)
			}
		}
	}
}

// What Add answers where nothing comes of it, and where m is there already, is no list that was handed in.
func TestAddAnswersNewMemoryWhereTheSetStays(t *testing.T) {
	for _, x := range [][2]string{{"code", "em"}, {"cite:by=1", "cite:by=1"}, {"sub code cite:by=1", "a:href=x,title=y"}} {
		l, m := marks(x[0]), mk(x[1])
		got, e := mark.Add(links(), l, m)
		if e != api.OK || !same(got, l) {
			t.Fatalf("%s to %s: %s, error %d", x[1], x[0], shown(got), e)
		}
		spoil(got)
		if !same(l, marks(x[0])) || !alike(m, mk(x[1])) {
			t.Errorf("%s to %s: now %s", x[1], x[0], shown(l))
		}
	}
}

func TestNilAndEmptyAreTheSame(t *testing.T) {
	s := pages()
	for i := range s.Marks {
		s.Marks[i].Excludes = append([]string{}, s.Marks[i].Excludes...)
		s.Marks[i].Attrs = []api.AttrSpec{}
	}
	none, empty := mk("em"), api.Mark{Type: "em", Attrs: []api.Attr{}}
	for _, m := range []api.Mark{none, empty} {
		for _, s := range []api.Schema{pages(), s} {
			if !mark.Fits(s, m) || mark.Check(s, []api.Mark{m}) != api.OK || mark.Sets(s) != 3 {
				t.Errorf("%v does not fit", m)
			}
			for _, l := range [][]api.Mark{nil, {}, {none}, {empty}} {
				if got, e := mark.Add(s, l, m); e != api.OK || !same(got, marks("em")) {
					t.Errorf("Add of %v to %v: %v, error %d", m, l, got, e)
				}
				if got := mark.Remove(l, m); len(got) > 0 {
					t.Errorf("Remove of %v from %v: %v", m, l, got)
				}
			}
		}
	}
	if mark.Compare([]api.Mark{none}, []api.Mark{empty}) != 0 || mark.Compare(nil, []api.Mark{}) != 0 {
		t.Error("they are not the same")
	}
}
