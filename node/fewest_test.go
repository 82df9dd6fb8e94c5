package node_test

import (
	"math/rand"
	"strconv"
	"strings"
	"testing"

	"copydesk/api"
	"copydesk/node"
	"copydesk/schema"
)

// P7.2: Fewest, Top

func TestFewest(t *testing.T) {
	for _, x := range []struct {
		s    api.Schema
		typ  string
		node string
	}{
		{pages(), "doc", "doc(h[level=1])"},
		{pages(), "p", "p"},
		{pages(), "h", "h[level=1]"},
		{pages(), "li", "li(p)"},
		{pages(), "hr", "hr"},
		{pages(), "br", "br"},

		{books(), "top", "top(sec)"},
		{books(), "head", "head"},
		{books(), "sec", "sec"},
		{books(), "par", "par"},
		{books(), "rows", "rows[kind=dots](row(par) row(par))"},
		{books(), "row", "row(par)"},
		{books(), "hr", "hr"},
		{books(), "foot", "foot(par)"},

		{small("a:b{2} c", "b:c d?", "c:d{3}", "d:"), "a", "a(b(c(d d d)) b(c(d d d)) c(d d d))"},
		{small("a:", "b: ; x=1 y z=~"), "b", "b[x=1,y=,z=~]"},
		{small("a:b c", "b: ; x=1", "c:b; y=2"), "a", "a(b[x=1] c[y=2](b[x=1]))"},
		// The shortest row, of these the least one, whatever comes of it.
		{small("a:b c | d", "b:", "c:", "d:b{16} b{8}"), "a", "a(d" + "(" + strings.Repeat("b ", 24) + "))"},
		{small("a:d | b", "b:c", "c:", "d:"), "a", "a(b(c))"},
		{small("a:d | b", "b:; x!", "c:", "d:"), "a", "a(d)"},
		// A type that may hold itself, but need not.
		{small("a:b", "b:b*"), "a", "a(b)"},
		{small("a:b", "b:b | c", "c:"), "c", "c"},
		{small("a:c", "b:b", "c:"), "a", "a(c)"},
	} {
		got, e := node.Fewest(may(t, x.s), x.typ)
		if e != ok || !alike(got, tree(x.node)) {
			t.Errorf("Fewest of %s: %s, error %d, want %s", x.typ, shown(got), e, x.node)
		}
		asFewest(t, x.s, x.typ)
	}
}

func TestFewestOfWhatIsNone(t *testing.T) {
	for _, typ := range []string{"", "zz", "text", "block", "inline", "em", "code", "Doc", "doc ", name17} {
		none(t, pages(), typ)
	}
	for _, typ := range []string{"text", "fig", "img", "flow", "note", "a"} {
		none(t, books(), typ)
	}
	// What needs what can't be made, can't be made.
	s := small("a:d?", "b:; x!", "c:b", "d:c+", "e:e", "f:g", "g:f", "h:text+", "i:; x y! z=1", "j:b | i", "k:d d e", "l:b | e?")
	for _, typ := range list("b c d e f g h i j k text") {
		none(t, may(t, s), typ)
	}
	for _, typ := range list("a l") {
		if got, e := node.Fewest(s, typ); e != ok || !alike(got, api.Node{Type: typ}) {
			t.Errorf("Fewest of %s: %s, error %d", typ, shown(got), e)
		}
	}
}

// none fails unless there is no Fewest of typ.
func none(t *testing.T, s api.Schema, typ string) {
	t.Helper()
	if got, e := node.Fewest(s, typ); e != api.ErrNone || !alike(got, api.Node{}) {
		t.Errorf("Fewest of %s: %s, error %d", typ, shown(got), e)
	}
}

// tooMuch fails unless Fewest of typ is too deep, or too great.
func tooMuch(t *testing.T, s api.Schema, typ string) {
	t.Helper()
	if got, e := node.Fewest(s, typ); e != long || !alike(got, api.Node{}) {
		t.Errorf("Fewest of %s: %s, error %d", typ, shown(got), e)
	}
}

// chain is a schema of n types, each of which needs the next one so many times.
func chain(n, times int) api.Schema {
	var types []string
	for i := range n - 1 {
		types = append(types, letter(i)+":"+letter(i+1)+"{"+strconv.Itoa(times)+"}")
		if times == 1 {
			types[i] = letter(i) + ":" + letter(i+1)
		}
	}
	return small(append(types, letter(n-1)+":")...)
}

// letter is a name; the later ones are greater.
func letter(i int) string {
	return string([]byte{byte('a' + i/26), byte('a' + i%26)})
}

func TestFewestThatIsDeep(t *testing.T) {
	for _, n := range []int{1, 2, 15, 16, 17, 18, 31} {
		s := may(t, chain(n, 1))
		for i := range n {
			if n-i > 16 {
				tooMuch(t, s, letter(i))
				continue
			}
			got, e := node.Fewest(s, letter(i))
			if e != ok || node.Deep(got) != n-i || node.Size(s, got) != 2*(n-i-1)+1 {
				t.Errorf("Fewest of %s, of %d: %s, error %d", letter(i), n, shown(got), e)
			}
			asFewest(t, s, letter(i))
		}
		top, e := node.Top(s)
		if (n > 16) != (e == long) || (n <= 16) != (e == ok) {
			t.Errorf("Top of %d: %s, error %d", n, shown(top), e)
		}
	}
}

// A type that needs itself, by the shortest row or the least one, has no end, though it can be made of others.
func TestFewestWithoutEnd(t *testing.T) {
	s := may(t, small("a:g*", "b:b | c", "c:", "d:d | c c", "e:f | c c", "f:e | c c", "g:d c", "h:d{16}", "i:h i{3} | c{16} c", "j:c{3} c b"))
	for _, typ := range list("b d e f g h i j") {
		if _, e := schema.Fewest(s, typ); e != ok {
			t.Fatalf("%s can't be made: error %d", typ, e)
		}
		tooMuch(t, s, typ)
	}
	if top, e := node.Top(s); e != ok || !alike(top, tree("a")) {
		t.Errorf("Top: %s, error %d", shown(top), e)
	}
	s = may(t, small("a:b", "b:b | c", "c:"))
	tooMuch(t, s, "a")
	if top, e := node.Top(s); e != long || !alike(top, api.Node{}) {
		t.Errorf("Top: %s, error %d", shown(top), e)
	}
}

func TestFewestThatIsGreat(t *testing.T) {
	// e is 1, d 18, c 290, b 4642, f 546: a is 2^16, g one more.
	types := []string{"b:c{16}", "c:d{16}", "d:e{16}", "e:", "f:c d{14} e{2}"}
	s := may(t, small(append([]string{"a:b{14} f", "g:b{14} f e"}, types...)...))
	got, e := node.Fewest(s, "a")
	if e != ok || node.Size(s, got) != 1<<16 || node.Check(s, got) != ok {
		t.Errorf("a has size %d, error %d", node.Size(s, got), e)
	}
	top, e := node.Top(s)
	if e != ok || node.Size(s, top) != 1<<16 || node.Document(s, top) != ok {
		t.Errorf("Top has size %d, error %d", node.Size(s, top), e)
	}
	tooMuch(t, s, "g")
	s.Types[0], s.Types[1] = s.Types[1], s.Types[0]
	if top, e := node.Top(may(t, s)); e != long || !alike(top, api.Node{}) {
		t.Errorf("Top: %s, error %d", shown(top), e)
	}
}

// It is told that it would be too great, without all of it being made.
func TestFewestThatIsBeyondAllBounds(t *testing.T) {
	s := may(t, chain(31, 16))
	for i := range 31 {
		if i < 27 {
			tooMuch(t, s, letter(i))
			continue
		}
		asFewest(t, s, letter(i))
	}
	if top, e := node.Top(s); e != long || !alike(top, api.Node{}) {
		t.Errorf("Top: %s, error %d", shown(top), e)
	}
}

// fewestByWords is the fewest of typ; false, if it would be nested deeper than so deep, or has more nodes than left.
func fewestByWords(s api.Schema, typ string, deep int, left *int) (api.Node, bool) {
	*left--
	if deep == 0 || *left < 0 {
		return api.Node{}, false
	}
	t, _ := typeOf(s, typ)
	n := api.Node{Type: typ}
	for _, a := range t.Attrs {
		n.Attrs = append(n.Attrs, api.Attr{Name: a.Name, Value: a.Default})
	}
	row, _ := schema.Fewest(s, typ)
	for _, name := range row {
		kid, ok := fewestByWords(s, name, deep-1, left)
		if !ok {
			return api.Node{}, false
		}
		n.Kids = append(n.Kids, kid)
	}
	return n, true
}

// asFewest fails unless Fewest of typ is told as by the words, and may be.
func asFewest(t *testing.T, s api.Schema, typ string) {
	t.Helper()
	got, e := node.Fewest(s, typ)
	want, wantErr := api.Node{}, api.ErrNone
	if _, none := schema.Fewest(s, typ); none == ok {
		left, fits := 1<<16, false
		want, fits = fewestByWords(s, typ, 16, &left)
		wantErr = ok
		if !fits || sizeByWords(s, want) > 1<<16 {
			want, wantErr = api.Node{}, long
		}
	}
	if e != wantErr || !alike(got, want) {
		t.Errorf("Fewest of %s: %.200s, error %d, want %.200s, error %d", typ, shown(got), e, shown(want), wantErr)
	}
	if e == ok && node.Check(s, got) != ok {
		t.Errorf("Fewest of %s: %.200s may not be", typ, shown(got))
	}
}

// someSchema is a schema by chance, that may not be, too.
func someSchema(r *rand.Rand) api.Schema {
	names := list("b c d e f g")
	pick := func() string { return names[r.Intn(len(names))] }
	behind := []string{"", "", "", "?", "*", "+", "{2}", "{3}", "{2,}", "{1,2}"}
	part := func() string {
		switch r.Intn(4) {
		case 0:
			return "(" + pick() + " | " + pick() + ")" + behind[r.Intn(len(behind))]
		case 1:
			return "(" + pick() + " " + pick() + " | " + pick() + ")"
		}
		return pick() + behind[r.Intn(len(behind))]
	}
	attrs := []string{"", "", "", "x=1", "x=1 y", "x!"}
	types := []string{"a:" + part()}
	for _, name := range names {
		var parts []string
		for range r.Intn(3) {
			parts = append(parts, part())
		}
		types = append(types, name+":"+strings.Join(parts, " ")+";"+attrs[r.Intn(len(attrs))])
	}
	return small(types...)
}

// Top is a document, whatever the schema (P7.3).
func TestTopsByChance(t *testing.T) {
	r := rand.New(rand.NewSource(7))
	tops, longs := 0, 0
	for range 1500 {
		s := someSchema(r)
		top, e := node.Top(s)
		if schema.Check(s) != ok {
			if e != schema.Check(s) || !alike(top, api.Node{}) {
				t.Fatalf("%v: Top %s, error %d", s, shown(top), e)
			}
			continue
		}
		switch e {
		case ok:
			tops++
			if node.Document(s, top) != ok || documentByWords(s, top) != ok {
				t.Errorf("%v: Top %s is no document", s, shown(top))
			}
		case long:
			longs++
		default:
			t.Errorf("%v: Top has error %d", s, e)
		}
		if first, err := node.Fewest(s, "a"); err != e || !alike(first, top) {
			t.Errorf("%v: Top %s, Fewest of it %s", s, shown(top), shown(first))
		}
		for _, typ := range list("a b c d e f g text") {
			asFewest(t, s, typ)
		}
	}
	if tops < 150 || longs < 15 {
		t.Errorf("%d tops, %d that are too long", tops, longs)
	}
}
