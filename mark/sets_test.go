package mark_test

import (
	"cmp"
	"math/rand"
	"slices"
	"strings"
	"testing"

	"copydesk/api"
	"copydesk/mark"
)

// P6.2

func TestRemove(t *testing.T) {
	for _, x := range []struct{ what, l, m, want string }{
		{"of nothing", "", "em", ""},
		{"what is not there", "em b", "code", "em b"},
		{"what has no Type", "em b", ":a=1", "em b"},
		{"the first", "em b cite:by=1", "em", "b cite:by=1"},
		{"one between", "em b cite:by=1", "b", "em cite:by=1"},
		{"the last", "em b cite:by=1", "cite:by=1", "em b"},
		{"the only one", "em", "em", ""},
		{"what stands twice", "em b em", "em", "b"},
		{"what stands twice, side by side", "b em em", "em", "b"},
		{"what stands several times", "em b em em x em", "em", "b x"},
		{"what stands alone, several times", "em em em", "em", ""},
		{"what is like it but for a Value", "cite:by=1 b", "cite:by=2", "cite:by=1 b"},
		{"what is like it but for a Name", "cite:by=1 b", "cite:bx=1", "cite:by=1 b"},
		{"what has one more", "cite:by=1,x=2 b", "cite:by=1", "cite:by=1,x=2 b"},
		{"what has one less", "cite:by=1 b", "cite:by=1,x=2", "cite:by=1 b"},
		{"what has none", "em b", "em:a=1", "em b"},
		{"what has some", "em:a=1 b", "em", "em:a=1 b"},
		{"one of those of its Type", "a:x=1 a:x=2 a:x=1 a", "a:x=1", "a:x=2 a"},
		{"one of those of its attributes", "a:x=1 b:x=1 c:x=1", "b:x=1", "a:x=1 c:x=1"},
		{"a Type that begins it", "em emm e", "em", "emm e"},
		{"what has its attributes in another order", "a:x=1,y=2 a:y=2,x=1", "a:y=2,x=1", "a:x=1,y=2"},
		{"what has its attributes twice", "a:x=1,x=1 a:x=1", "a:x=1,x=1", "a:x=1"},
		{"what is no set", "x em code A1 em", "A1", "x em code em"},
		{"what is no Type", "em " + name17, name17, "em"},
	} {
		if got := mark.Remove(marks(x.l), mk(x.m)); !same(got, marks(x.want)) {
			t.Errorf("%s: %s from %q: %s", x.what, x.m, x.l, shown(got))
		}
	}
	if got := mark.Remove([]api.Mark{{}, mk("em"), {}}, api.Mark{}); !same(got, marks("em")) {
		t.Errorf("of what is nothing: %s", shown(got))
	}
	if got := mark.Remove(slices.Repeat(marks("em b"), 10000), mk("em")); !same(got, slices.Repeat(marks("b"), 10000)) {
		t.Errorf("of 20,000: %d are left", len(got))
	}
}

func TestFind(t *testing.T) {
	for _, x := range []struct {
		l, typ string
		at     int
	}{
		{"", "em", -1},
		{"", "", -1},
		{"em", "em", 0},
		{"em b cite:by=1", "em", 0},
		{"em b cite:by=1", "b", 1},
		{"em b cite:by=1", "cite", 2},
		{"em b cite:by=1", "by", -1},
		{"em b cite:by=1", "code", -1},
		{"em b cite:by=1", "", -1},
		{"em b", "e", -1},
		{"em b", "emm", -1},
		{"em b", "Em", -1},
		{"em b", "em ", -1},
		{"b a:x=2 a:x=1 a:x=3", "a", 1},
		{"b a:x=1 a a:x=1", "a", 1},
		{"b a a:x=1", "a", 1},
		{"b em b em", "em", 1},
		{"x A1 em", "A1", 1},
		{"em " + name17, name17, 1},
		{"em :a=1", "", 1},
	} {
		m, ok := mark.Find(marks(x.l), x.typ)
		if want := x.at >= 0; ok != want || want && !alike(m, marks(x.l)[x.at]) || !want && !alike(m, api.Mark{}) {
			t.Errorf("Find of %q in %q: %s, %t", x.typ, x.l, shown([]api.Mark{m}), ok)
		}
	}
}

func TestAllowed(t *testing.T) {
	s := pages()
	s.Types[3].Marks = list("code")
	s.Types[4].Marks = list("code em")
	may(t, s)
	for _, x := range []struct {
		typ, l string
		want   bool
	}{
		{"p", "", true}, {"doc", "", true}, {"text", "", true}, {"x", "", true}, {"", "", true}, {"em", "", true},
		{"p", "em", true}, {"p", "code", true}, {"p", "em code", true}, {"p", "code em", true}, {"p", "em em em", true},
		{"h", "em", true}, {"h", "code", false}, {"h", "em code", false}, {"h", "code em", false}, {"h", "em em", true},
		{"li", "code", true}, {"li", "em", false}, {"li", "code code em", false}, {"hr", "em code", true},
		{"p", "x", false}, {"p", "em x", false}, {"p", "x em", false}, {"p", "em x code", false}, {"p", "p", false}, {"p", "text", false},
		{"doc", "em", false}, {"br", "em", false}, {"text", "em", false}, {"text", "code", false}, {"block", "em", false},
		{"x", "em", false}, {"", "em", false}, {"P", "em", false}, {"em", "em", false}, {name17, "em", false}, {"x", "x", false},
		{"p", "e", false}, {"p", "emm", false}, {"p", "Em", false}, {"p", name17, false},
		// Types alone count, not whether the marks fit.
		{"p", "em:a=1 code:x=y,x=y", true}, {"h", "em:a=1", true}, {"h", "code:a=1", false},
	} {
		if got := mark.Allowed(s, x.typ, marks(x.l)); got != x.want {
			t.Errorf("Allowed by %q of %q: %t", x.typ, x.l, got)
		}
	}
	if mark.Allowed(s, "p", []api.Mark{{}}) || mark.Allowed(s, "p", append(marks("em"), api.Mark{})) || !mark.Allowed(s, "h", []api.Mark{}) {
		t.Error("of a mark without a Type, of none")
	}
	if !mark.Allowed(s, "p", slices.Repeat(marks("em"), 100000)) || mark.Allowed(s, "p", append(slices.Repeat(marks("em"), 100000), mk("x"))) {
		t.Error("of many")
	}
}

func TestCompare(t *testing.T) {
	for _, x := range []struct {
		what, a, b string
		want       int
	}{
		{"nothing", "", "", 0},
		{"the same", "em", "em", 0},
		{"several that are the same", "em a:x=1,y=2 b", "em a:x=1,y=2 b", 0},
		{"nothing and something", "", "em", -1},
		{"the beginning", "em", "em b", -1},
		{"the beginning, which is behind", "z", "z a", -1},
		{"the beginning, with attributes", "em a:x=1", "em a:x=1 a:x=1", -1},
		{"by Type", "a", "b", -1},
		{"by Type, ahead of how many there are", "a z z", "b", -1},
		{"by Type, ahead of attributes", "a:z=9", "b:a=1", -1},
		{"by Type, ahead of whether there are attributes", "a:z=9", "b", -1},
		{"by a Type that begins the other", "e", "em", -1},
		{"by great letters", "B", "a", -1},
		{"by bytes", "z", "\u00e4", -1},
		{"by the second Type", "em a", "em b", -1},
		{"by the first Type, not the second", "a b", "b a", -1},
		{"by attributes", "a:x=1", "a:x=2", -1},
		{"by attributes' Names", "a:x=2", "a:y=1", -1},
		{"by none and some", "a", "a:x=1", -1},
		{"by some and more", "a:x=1", "a:x=1,y=1", -1},
		{"by attributes, ahead of how many there are", "a:x=1 b b", "a:x=2", -1},
		{"by attributes, ahead of the next Type", "a:x=1 z", "a:x=2 b", -1},
		{"by the next Type, where attributes are the same", "a:x=1 b", "a:x=1 z", -1},
		{"by the last attributes", "em a b:x=1", "em a b:x=10", -1},
		{"what may not be", "em em", "em em em", -1},
		{"attributes that fall", "a:y=1,x=1", "a:y=1,x=2", -1},
	} {
		if got := mark.Compare(marks(x.a), marks(x.b)); got != x.want {
			t.Errorf("%s: %q and %q: %d", x.what, x.a, x.b, got)
		}
		if got := mark.Compare(marks(x.b), marks(x.a)); got != -x.want {
			t.Errorf("%s, turned round: %d", x.what, got)
		}
	}
	if n := mark.Compare(slices.Repeat(marks("em"), 100000), append(slices.Repeat(marks("em"), 99999), mk("b"))); n != 1 {
		t.Errorf("of many: %d", n)
	}
}

func TestSets(t *testing.T) {
	chain := func(i, j int) bool { return j == i+1 }
	for _, x := range []struct {
		what string
		s    api.Schema
		want int
	}{
		{"the pages", pages(), 3},
		{"no marks", of(), 1},
		{"one mark", of("em"), 2},
		{"two", of("a", "b"), 4},
		{"two, the first excludes", of("a > b", "b"), 3},
		{"two, the second excludes", of("a", "b > a"), 3},
		{"two, both exclude", of("a > b", "b > a"), 3},
		{"three, one excludes both", of("a", "b > a c", "c"), 5},
		{"three, each the next one", of("a > b", "b > c", "c"), 5},
		{"three, round", of("a > b", "b > c", "c > a"), 4},
		{"three, two of which exclude one another", of("a > c", "b", "c"), 6},
		{"marks that must have attributes", of("a ; x!", "b ; x y! z"), 4},
		{"the links", links(), 60},
		{"16 that exclude nobody", wide(16, never), 1 << 16},
		{"16 that all exclude one another", wide(16, always), 17},
		{"16, the higher ones exclude the lower ones", wide(16, func(i, j int) bool { return i > j }), 17},
		{"16, the lower ones exclude the higher ones", wide(16, func(i, j int) bool { return i < j }), 17},
		{"16, each the next one", wide(16, chain), 2584},
		{"16, the first one all", wide(16, func(i, j int) bool { return i == 0 }), 1<<15 + 1},
		{"16, all the last one", wide(16, func(i, j int) bool { return j == 15 }), 1<<15 + 1},
		{"16, the last one the first", wide(16, func(i, j int) bool { return i == 15 && j == 0 }), 3 << 14},
		{"15 that exclude nobody", wide(15, never), 1 << 15},
		{"two kinds of 8 that exclude one another", wide(16, func(i, j int) bool { return i < 8 && j >= 8 }), 2<<8 - 1},
	} {
		if got := mark.Sets(may(t, x.s)); got != x.want {
			t.Errorf("%s: %d, want %d", x.what, got, x.want)
		}
		if got := countByWords(x.s, nil, 0); got != x.want {
			t.Errorf("%s: %d by the words", x.what, got)
		}
	}
}

// All ways in which four marks can exclude one another.
func TestSetsOfFour(t *testing.T) {
	for pairs := range 1 << 12 {
		s := wide(4, func(i, j int) bool { return pairs>>(3*i+(j+4-i)%4-1)&1 != 0 })
		if got, want := mark.Sets(s), countByWords(s, nil, 0); got != want {
			t.Fatalf("%v: %d, want %d", s.Marks, got, want)
		}
	}
}

// P6.3, and what Check and Add answer by the words

// lists are all lists of at most that many marks out of some.
func lists(some []api.Mark, most int) [][]api.Mark {
	all := [][]api.Mark{nil}
	for from := 0; most > 0; most-- {
		to := len(all)
		for _, l := range all[from:to] {
			for _, m := range some {
				all = append(all, append(slices.Clone(l), m))
			}
		}
		from = to
	}
	return all
}

// held holds Check of l, and Add of m to it, against the words, and tells whether l is a set.
func held(t *testing.T, s api.Schema, l []api.Mark, m api.Mark) bool {
	t.Helper()
	got, e := mark.Add(s, l, m)
	is, fits := setByWords(s, l), fitsByWords(s, m)
	if check := mark.Check(s, l); is != (check == api.OK) || !is && check != api.ErrArg {
		t.Fatalf("%v: Check of %s: error %d", s.Marks, shown(l), check)
	}
	if mark.Fits(s, m) != fits {
		t.Fatalf("%v: %s fits: not %t", s.Marks, shown([]api.Mark{m}), fits)
	}
	want := api.OK
	switch {
	case !is:
		want = api.ErrArg
	case rankOf(s, m.Type) < 0:
		want = api.ErrNone
	case !fits:
		want = api.ErrArg
	}
	if e != want || e != api.OK && len(got) > 0 {
		t.Fatalf("%v: Add of %s to %s: %s, error %d, want %d", s.Marks, shown([]api.Mark{m}), shown(l), shown(got), e, want)
	}
	if e == api.OK {
		added(t, s, l, m, got)
	}
	return is
}

// added holds got, which Add answered, against the words and what follows.
func added(t *testing.T, s api.Schema, l []api.Mark, m api.Mark, got []api.Mark) {
	t.Helper()
	if want := addByWords(s, l, m); !same(got, want) {
		t.Fatalf("%v: Add of %s to %s: %s, want %s", s.Marks, shown([]api.Mark{m}), shown(l), shown(got), shown(want))
	}
	has := slices.ContainsFunc(got, func(one api.Mark) bool { return alike(one, m) })
	if mark.Check(s, got) != api.OK || !has && !same(got, l) {
		t.Fatalf("%v: Add of %s to %s: %s", s.Marks, shown([]api.Mark{m}), shown(l), shown(got))
	}
	if again, e := mark.Add(s, got, m); e != api.OK || !same(again, got) {
		t.Fatalf("%v: Add of %s again to %s: %s, error %d", s.Marks, shown([]api.Mark{m}), shown(got), shown(again), e)
	}
}

// All lists of three marks out of four, one of which has attributes, in all ways in which three types can exclude one another.
func TestAddOfThree(t *testing.T) {
	some := marks("ma mb:x=1 mb:x=2 mc")
	for pairs := range 1 << 6 {
		s := wide(3, func(i, j int) bool { return pairs>>(2*i+(j+3-i)%3-1)&1 != 0 })
		s.Marks[1].Attrs = []api.AttrSpec{{Name: "x"}}
		count := 0
		for _, l := range lists(some, 3) {
			for _, m := range some {
				if held(t, s, l, m) {
					count++
				}
			}
		}
		// There are two marks of the second type.
		if sets := mark.Sets(s); count < len(some)*sets || count > len(some)*2*sets {
			t.Errorf("%v: %d of lists and marks, %d sets", s.Marks, count, sets)
		}
	}
}

// by makes a schema by chance, of at most api.MaxMarks marks.
func by(r *rand.Rand) api.Schema {
	often := 1 + r.Intn(8)
	s := wide(r.Intn(api.MaxMarks+1), func(i, j int) bool { return r.Intn(often*4) == 0 })
	r.Shuffle(len(s.Marks), func(i, j int) { s.Marks[i], s.Marks[j] = s.Marks[j], s.Marks[i] })
	for i := range s.Marks {
		for _, name := range letters(r.Intn(3)) {
			s.Marks[i].Attrs = append(s.Marks[i].Attrs, api.AttrSpec{Name: name, Must: r.Intn(2) == 0})
		}
	}
	return s
}

// one makes a mark by chance, which mostly fits.
func one(r *rand.Rand, s api.Schema) api.Mark {
	if len(s.Marks) == 0 || r.Intn(30) == 0 {
		return mk("x")
	}
	typ := s.Marks[r.Intn(len(s.Marks))]
	m := api.Mark{Type: typ.Name}
	for _, spec := range typ.Attrs {
		m.Attrs = append(m.Attrs, api.Attr{Name: spec.Name, Value: "1234"[:r.Intn(5)]})
	}
	if r.Intn(30) == 0 {
		m.Attrs = append(m.Attrs, api.Attr{Name: "mb"})
	}
	return m
}

func TestSetsByChance(t *testing.T) {
	r := rand.New(rand.NewSource(6))
	sets, grew, stayed := 0, 0, 0
	for range 1000 {
		s := may(t, by(r))
		var l []api.Mark
		for range 30 {
			m := one(r, s)
			held(t, s, l, m)
			next, e := mark.Add(s, l, m)
			if e != api.OK {
				continue
			}
			sets++
			if len(next) > len(l) {
				grew++
			}
			if same(next, l) {
				stayed++
			}
			l = next
			other := append(slices.Clone(l), m)
			r.Shuffle(len(other), func(i, j int) { other[i], other[j] = other[j], other[i] })
			held(t, s, other, one(r, s))
		}
		if n := mark.Sets(s); n != countByWords(s, nil, 0) {
			t.Fatalf("%v: %d sets", s.Marks, n)
		}
	}
	if sets < 20000 || grew < 4000 || stayed < 4000 {
		t.Errorf("%d times, %d of which it grew, %d stayed", sets, grew, stayed)
	}
}

func TestCompareIsAnOrder(t *testing.T) {
	all := lists(append(marks("a b a:x=1 a:x=2 a:y=1 a:x=1,y=1"), api.Mark{}), 2)
	for _, a := range all {
		for _, b := range all {
			ab := mark.Compare(a, b)
			if ab != -mark.Compare(b, a) || ab < -1 || ab > 1 || (ab == 0) != same(a, b) {
				t.Fatalf("Compare(%s, %s) = %d, and %d turned round", shown(a), shown(b), ab, mark.Compare(b, a))
			}
			if len(a) == 0 || len(b) == 0 {
				if ab != cmp.Compare(len(a), len(b)) {
					t.Fatalf("Compare(%s, %s) = %d", shown(a), shown(b), ab)
				}
				continue
			}
			if want := cmp.Or(mark.Compare(a[:1], b[:1]), mark.Compare(a[1:], b[1:])); ab != want {
				t.Fatalf("Compare(%s, %s) = %d, one by one %d", shown(a), shown(b), ab, want)
			}
			for _, c := range all {
				if ab <= 0 && mark.Compare(b, c) <= 0 && mark.Compare(a, c) != min(ab, mark.Compare(b, c)) {
					t.Fatalf("%s, %s, %s are in no order", shown(a), shown(b), shown(c))
				}
			}
		}
	}
}

func FuzzAdd(f *testing.F) {
	f.Add("em|code > em", "em", "code", "em")
	f.Add("em|a ; href! title|sub > sup|sup > sub|code > a em", "em a:href=x,title=y sub", "sup", "a:href=,title=")
	f.Add("a > b|b > a c|c > b", "a c", "b", "")
	f.Fuzz(func(t *testing.T, schema, l, m, typ string) {
		s := of(strings.Split(schema, "|")...)
		e := mark.Check(s, nil)
		if e == api.OK {
			held(t, s, marks(l), mk(m))
			if got, want := mark.Sets(s), countByWords(s, nil, 0); got != want {
				t.Errorf("%d sets, want %d", got, want)
			}
		} else if got, err := mark.Add(s, marks(l), mk(m)); err != e || len(got) > 0 || mark.Sets(s) != 0 || mark.Fits(s, mk(m)) {
			t.Errorf("of a schema that may not be: %s, error %d, want %d", shown(got), err, e)
		}
		rest := mark.Remove(marks(l), mk(m))
		for _, one := range rest {
			if alike(one, mk(m)) {
				t.Errorf("Remove of %s: %s", m, shown(rest))
			}
		}
		if (mark.Compare(rest, marks(l)) == 0) != same(rest, marks(l)) {
			t.Errorf("%s, %s", shown(rest), l)
		}
		found, ok := mark.Find(marks(l), typ)
		for _, one := range marks(l) {
			if one.Type == typ {
				if !ok || !alike(found, one) {
					t.Errorf("Find of %q in %q: %s, %t", typ, l, shown([]api.Mark{found}), ok)
				}
				return
			}
		}
		if ok || !alike(found, api.Mark{}) {
			t.Errorf("Find of %q in %q: %s, %t", typ, l, shown([]api.Mark{found}), ok)
		}
	})
}
