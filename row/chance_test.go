package row_test

import (
	"math/rand"
	"slices"
	"testing"

	"copydesk/api"
	"copydesk/match"
	"copydesk/node"
	"copydesk/row"
	"copydesk/schema"
)

// whole is a node of the type typ by chance, that may be (where it is not too deep).
func whole(r *rand.Rand, s api.Schema, typ string, deep int) api.Node {
	t, _ := typeOf(s, typ)
	n := api.Node{Type: typ, Attrs: attrsBy(r, t.Attrs)}
	if typ == "text" {
		for range 1 + r.Intn(3) {
			n.Text += string(rune(' ' + r.Intn(95)))
		}
		return n
	}
	a, _ := schema.Auto(s, typ)
	made := schema.Made(s)
	for state := 0; ; {
		if a.States[state].Ends && (r.Intn(4) == 0 || len(a.States[state].Edges) == 0 || deep > 3) {
			return n
		}
		next := a.States[state].Edges[r.Intn(len(a.States[state].Edges))]
		if fill, ok := match.Fill(a, state, nil, made); deep > 2 && ok && len(fill) > 0 {
			next = api.Edge{Type: fill[0], To: match.Next(a, state, fill[0])}
		}
		kid := whole(r, s, next.Type, deep+1)
		kid.Marks = marked(r, s, t.Marks)
		if len(n.Kids) > 0 && kid.Type == "text" && n.Kids[len(n.Kids)-1].Type == "text" && slices.EqualFunc(n.Kids[len(n.Kids)-1].Marks, kid.Marks, sameMark) {
			continue
		}
		n.Kids = append(n.Kids, kid)
		state = next.To
	}
}

// attrsBy are attributes that fit specs.
func attrsBy(r *rand.Rand, specs []api.AttrSpec) []api.Attr {
	var l []api.Attr
	for _, a := range specs {
		l = append(l, api.Attr{Name: a.Name, Value: list("a b 1 ~")[r.Intn(4)]})
	}
	return l
}

// marked are a set of marks, of types that are allowed.
func marked(r *rand.Rand, s api.Schema, allowed []string) []api.Mark {
	var l []api.Mark
	for _, m := range s.Marks {
		none := func(one api.Mark) bool {
			t := s.Marks[slices.IndexFunc(s.Marks, func(t api.MarkType) bool { return t.Name == one.Type })]
			return slices.Contains(m.Excludes, one.Type) || slices.Contains(t.Excludes, m.Name)
		}
		if r.Intn(4) == 0 && slices.Contains(allowed, m.Name) && !slices.ContainsFunc(l, none) {
			l = append(l, api.Mark{Type: m.Name, Attrs: attrsBy(r, m.Attrs)})
		}
	}
	return l
}

// anyToken is a token by chance, most often one that may be.
func anyToken(r *rand.Rand, s api.Schema) api.Token {
	typ := s.Types[r.Intn(len(s.Types))]
	var all []string
	for _, m := range s.Marks {
		all = append(all, m.Name)
	}
	t := api.Token{Kind: 1 + r.Intn(4), Marks: marked(r, s, all)}
	switch t.Kind {
	case 1, 3:
		t.Type, t.Attrs = typ.Name, attrsBy(r, typ.Attrs)
	case 2:
		t.Marks = nil
	case 4:
		t.Char = byte(' ' + r.Intn(95))
	}
	return t
}

// broken is l with something else somewhere.
func broken(r *rand.Rand, s api.Schema, l []api.Token) []api.Token {
	l = clones(l)
	from, to := r.Intn(len(l)+1), r.Intn(len(l)+1)
	from, to = min(from, to), max(from, to)
	switch r.Intn(8) {
	case 0:
		return slices.Delete(l, from, to)
	case 1:
		return slices.Insert(l, from, anyToken(r, s))
	case 2:
		return slices.Insert(l, from, clones(l[from:to])...)
	case 3:
		return append(slices.Delete(clones(l), from, to), clones(l[from:to])...)
	}
	if len(l) == 0 {
		return l
	}
	t := &l[from%len(l)]
	switch other := anyToken(r, s); r.Intn(6) {
	case 0:
		t.Marks = other.Marks
	case 1:
		t.Attrs = other.Attrs
	case 2:
		t.Type = other.Type
	case 3:
		t.Char = other.Char
	case 4:
		t.Kind = r.Intn(6)
	case 5:
		t.Marks = append(t.Marks, other.Marks...)
	}
	return l
}

func TestByChance(t *testing.T) {
	r := rand.New(rand.NewSource(8))
	found := map[api.Errno]int{}
	for i := range 1000 {
		s := []api.Schema{pages(), books()}[i%2]
		n := whole(r, s, s.Types[0].Name, 0)
		l := clones(rowByWords(s, n))
		ofIs(t, s, n, l, ok)
		makeIs(t, s, l, n, ok)
		size(t, s, n, l)
		other := l
		for range r.Intn(4) {
			other = broken(r, s, other)
		}
		found[asTold(t, s, other, l)]++
	}
	for _, e := range []api.Errno{ok, arg, shape} {
		if found[e] < 100 {
			t.Errorf("%d rows with the error %d", found[e], e)
		}
	}
}

// asTold answers what Make tells of l, and fails unless all calls answer of it, and of it with another one, as the words say.
func asTold(t *testing.T, s api.Schema, l, other []api.Token) api.Errno {
	t.Helper()
	checkIs(t, s, l, checkByWords(s, l))
	n, e := makeByWords(s, l)
	makeIs(t, s, l, n, e)
	closes, opens := leftByWords(l)
	if got := left(l); got != (sides{closes, opens}) {
		t.Errorf("Left of %s: %v, want %d, %d", shown(l), got, closes, opens)
	}
	for at := -1; at <= len(l)+1; at++ {
		if row.Depth(l, at) != depthByWords(l, at) {
			t.Errorf("Depth of %s at %d: %d", shown(l), at, row.Depth(l, at))
		}
	}
	if row.Same(l, other) != equal(l, other) || row.Same(other, l) != equal(l, other) || !row.Same(l, clones(l)) {
		t.Errorf("Same of %s and %s: %t", shown(l), shown(other), !equal(l, other))
	}
	ahead, behind := row.Alike(l, other)
	if a, b := alikeByWords(l, other); ahead != a || behind != b {
		t.Errorf("Alike of %s and %s: %d, %d, want %d, %d", shown(l), shown(other), ahead, behind, a, b)
	}
	between(t, l, other, ahead, behind)
	together(t, l, other)
	if e == ok {
		back(t, s, n, l)
	}
	return e
}

// between fails unless what other has between what it has in common with l at both ends, put in the place of what l has there, makes l the other one.
func between(t *testing.T, l, other []api.Token, ahead, behind int) {
	t.Helper()
	mid, e := cutByWords(other, ahead, len(other)-behind)
	cutIs(t, other, ahead, len(other)-behind, mid, e)
	putIs(t, l, ahead, len(l)-behind, mid, other, ok)
}

// back fails unless Of of n, which l makes, is l again, and Make of that n (P8.4).
func back(t *testing.T, s api.Schema, n api.Node, l []api.Token) {
	t.Helper()
	ofIs(t, s, n, l, ok)
	if got, e := row.Make(s, l); e != ok || !node.Same(got, n) || !apart(got, l) {
		t.Errorf("Make of %s: %s, error %d", shown(l), told(got), e)
	}
	size(t, s, n, l)
}

// together fails unless what a and b leave tells what they leave together, either ahead (P8.4).
func together(t *testing.T, a, b []api.Token) {
	t.Helper()
	for range 2 {
		x, y, both := left(a), left(b), left(then(a, b))
		met := min(x.opens, y.closes)
		if want := (sides{x.closes + y.closes - met, x.opens + y.opens - met}); both != want {
			t.Errorf("Left of %s and %s together: %v, want %v", shown(a), shown(b), both, want)
		}
		a, b = b, a
	}
}

// all are all rows of up to so many of these tokens.
func all(some []api.Token, most int) [][]api.Token {
	rows := [][]api.Token{nil}
	for i := 0; i < len(rows); i++ {
		for _, t := range some {
			if len(rows[i]) < most {
				rows = append(rows, append(clones(rows[i]), cloned(t)))
			}
		}
	}
	return rows
}

// All rows of up to five tokens: what they make, and what they leave.
func TestAllRows(t *testing.T) {
	for _, l := range all(tokens("(p ) /hr 'a' 'b'^em"), 5) {
		n, e := makeByWords(pages(), l)
		makeIs(t, pages(), l, n, e)
		closes, opens := leftByWords(l)
		if got := left(l); got != (sides{closes, opens}) {
			t.Errorf("Left of %s: %v, want %d, %d", shown(l), got, closes, opens)
		}
		if e == ok {
			back(t, pages(), n, l)
		}
	}
}

// All pairs of rows of up to four tokens: what they leave together, and how far they are alike.
func TestAllPairs(t *testing.T) {
	rows := all(tokens("(p ) 'a'"), 4)
	for _, a := range rows {
		for _, b := range rows {
			together(t, a, b)
			ahead, behind := row.Alike(a, b)
			if x, y := alikeByWords(a, b); ahead != x || behind != y {
				t.Errorf("Alike of %s and %s: %d, %d, want %d, %d", shown(a), shown(b), ahead, behind, x, y)
			}
		}
	}
}

// read makes a row of bytes, each of which tells a token, or changes the last one.
func read(s api.Schema, text string) []api.Token {
	l := []api.Token{}
	for _, c := range []byte(text) {
		k := int(c) / 16
		typ := s.Types[k%len(s.Types)]
		fill := attrsBy(rand.New(rand.NewSource(int64(k))), typ.Attrs)
		var last api.Token
		if len(l) > 0 {
			last = l[len(l)-1]
		}
		switch m := s.Marks[k%len(s.Marks)]; c % 16 {
		case 0, 1, 2:
			l = append(l, api.Token{Kind: api.TokOpen, Type: typ.Name, Attrs: fill})
		case 3, 4, 5:
			l = append(l, api.Token{Kind: api.TokClose})
		case 6, 7:
			l = append(l, api.Token{Kind: api.TokLeaf, Type: typ.Name, Attrs: fill})
		case 8, 9, 10:
			l = append(l, api.Token{Kind: api.TokChar, Char: byte(k*9 + 20)})
		case 11, 12:
			last.Marks = append(slices.Clone(last.Marks), api.Mark{Type: m.Name, Attrs: attrsBy(rand.New(rand.NewSource(1)), m.Attrs)})
		case 13:
			last.Attrs = fill
		case 14:
			last.Char = byte(k * 9)
		case 15:
			last.Kind = k % 6
		}
		if c%16 > 10 {
			l = append(l[:max(0, len(l)-1)], last)
		}
	}
	return l
}

func FuzzMake(f *testing.F) {
	f.Add("", "", false)
	f.Add("\x10\x58\x68\x0b\x03\x46", "\x10\x58\x03\x46", false)
	f.Add("\x30\x10\x98\x03\x40\x03\x03\x46", "\x03\x13\x10", false)
	f.Add("\x10\x20\x98\x9b\x66\x5b\x20\x03\x03", "\x10\x20\x98\x03\x03", true)
	f.Add("\x10\x30\x20\x98\x98\x03\x03\x46\x03", "", true)
	f.Fuzz(func(t *testing.T, a, b string, book bool) {
		s := pages()
		if book {
			s = books()
		}
		asTold(t, s, read(s, a), read(s, b))
	})
}
