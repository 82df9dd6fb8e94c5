package step_test

import (
	"math/rand"
	"slices"
	"testing"

	"copydesk/api"
	"copydesk/maps"
	"copydesk/match"
	"copydesk/row"
	"copydesk/schema"
	"copydesk/step"
)

// whole is a node of the type typ by chance, that may be (where it is not too deep).
func whole(r *rand.Rand, s api.Schema, typ string, deep int) api.Node {
	t, _ := typeOf(s, typ)
	n := api.Node{Type: typ, Attrs: attrsBy(r, t.Attrs)}
	if typ == "text" {
		for range 1 + r.Intn(3) {
			n.Text += string(rune('a' + r.Intn(3)))
		}
		return n
	}
	a, _ := schema.Auto(s, typ)
	made := schema.Made(s)
	for state := 0; ; {
		if a.States[state].Ends && (r.Intn(4) == 0 || len(a.States[state].Edges) == 0 || deep > 3) {
			return n
		}
		next := a.States[state].Edges[r.Intn(len(a.States[state].Edges))]
		if fill, ok := match.Fill(a, state, nil, made); deep > 2 && ok && len(fill) > 0 {
			next = api.Edge{Type: fill[0], To: match.Next(a, state, fill[0])}
		}
		kid := whole(r, s, next.Type, deep+1)
		kid.Marks = marked(r, s, t.Marks)
		if len(n.Kids) > 0 && kid.Type == "text" && n.Kids[len(n.Kids)-1].Type == "text" && slices.EqualFunc(n.Kids[len(n.Kids)-1].Marks, kid.Marks, sameMark) {
			continue
		}
		n.Kids = append(n.Kids, kid)
		state = next.To
	}
}

// attrsBy are attributes that fit specs.
func attrsBy(r *rand.Rand, specs []api.AttrSpec) []api.Attr {
	var l []api.Attr
	for _, a := range specs {
		l = append(l, api.Attr{Name: a.Name, Value: list("a b")[r.Intn(2)]})
	}
	return l
}

// marked are a set of marks, of types that are allowed.
func marked(r *rand.Rand, s api.Schema, allowed []string) []api.Mark {
	var l []api.Mark
	for _, m := range s.Marks {
		foreign := func(one api.Mark) bool {
			t := s.Marks[slices.IndexFunc(s.Marks, func(t api.MarkType) bool { return t.Name == one.Type })]
			return slices.Contains(m.Excludes, one.Type) || slices.Contains(t.Excludes, m.Name)
		}
		if r.Intn(4) == 0 && slices.Contains(allowed, m.Name) && !slices.ContainsFunc(l, foreign) {
			l = append(l, api.Mark{Type: m.Name, Attrs: attrsBy(r, m.Attrs)})
		}
	}
	return l
}

// anyMark is a mark that fits.
func anyMark(r *rand.Rand, s api.Schema) api.Mark {
	m := s.Marks[r.Intn(len(s.Marks))]
	return api.Mark{Type: m.Name, Attrs: attrsBy(r, m.Attrs)}
}

// anyToken is a token by chance that may be.
func anyToken(r *rand.Rand, s api.Schema) api.Token {
	typ := s.Types[1+r.Intn(len(s.Types)-1)]
	switch kind := 1 + r.Intn(4); {
	case kind == 2:
		return api.Token{Kind: 2}
	case kind == 4 || typ.Name == "text":
		return api.Token{Kind: 4, Char: byte('a' + r.Intn(3)), Marks: marked(r, s, typ.Marks)}
	case schema.Leaf(s, typ.Name):
		return api.Token{Kind: 3, Type: typ.Name, Attrs: attrsBy(r, typ.Attrs)}
	}
	return api.Token{Kind: 1, Type: typ.Name, Attrs: attrsBy(r, typ.Attrs)}
}

// anyMid are tokens that may stand somewhere: some of l, others, or both.
func anyMid(r *rand.Rand, s api.Schema, l []api.Token) []api.Token {
	from, to := anySpan(r, len(l))
	mid := clones(l[from:min(to, from+6)])
	for range r.Intn(3) {
		mid = slices.Insert(mid, r.Intn(len(mid)+1), anyToken(r, s))
	}
	return mid
}

// anySpan are two places of a row of that length, the first not above the second.
func anySpan(r *rand.Rand, length int) (int, int) {
	from, to := r.Intn(length+1), r.Intn(length+1)
	return min(from, to), max(from, to)
}

// anyStep is a step by chance for the row l, that may be, most often.
func anyStep(r *rand.Rand, s api.Schema, l []api.Token) api.Step {
	t := api.Step{Kind: 1 + r.Intn(6)}
	t.From, t.To = anySpan(r, len(l))
	switch t.Kind {
	case 1:
		if t.Mid = anyMid(r, s, l); r.Intn(2) == 0 {
			t.From, t.To = even(l, t.From, t.To)
			t.Mid = nil
		}
	case 2:
		t.Gap = t.From + r.Intn(t.To-t.From+1)
		t.End = t.Gap + r.Intn(t.To-t.Gap+1)
		t.Mid = anyMid(r, s, l)
		t.Insert = r.Intn(len(t.Mid) + 1)
		if r.Intn(2) == 0 {
			t.From, t.To = even(l, t.From, t.To)
			t.Gap, t.End, t.Insert, t.Mid = t.From, t.To, 1, []api.Token{anyToken(r, s), {Kind: 2}}
		}
	case 3, 4:
		t.Mark = anyMark(r, s)
	case 5:
		t.To, t.Name, t.Value = 0, "src", list("x y z")[r.Intn(3)]
		if t.From < len(l) && len(l[t.From].Attrs) > 0 && r.Intn(4) > 0 {
			t.Name = l[t.From].Attrs[r.Intn(len(l[t.From].Attrs))].Name
		}
	case 6:
		t.Mid = clones(l[t.From:t.To])
		for i := range t.Mid {
			if t.Mid[i].Kind != 2 && r.Intn(2) == 0 {
				t.Mid[i].Marks = marked(r, s, s.Types[1+r.Intn(len(s.Types)-1)].Marks)
			}
		}
		if len(t.Mid) > 0 && r.Intn(4) == 0 {
			t.Mid[r.Intn(len(t.Mid))] = anyToken(r, s)
		}
	}
	return t
}

// even are from and a place behind it, up to to, between which each node ends that begins there: from itself, if there is none other.
func even(l []api.Token, from, to int) (int, int) {
	for ; to > from; to-- {
		if closes, opens := row.Left(l[from:to]); closes == 0 && opens == 0 {
			break
		}
	}
	return from, to
}

// broken is t with something else somewhere.
func broken(r *rand.Rand, s api.Schema, t api.Step) api.Step {
	switch r.Intn(18) {
	case 0:
		t.Kind = r.Intn(9) - 1
	case 1:
		t.From += r.Intn(5) - 2
	case 2:
		t.To += r.Intn(5) - 2
	case 3:
		t.Gap += r.Intn(5) - 2
	case 4:
		t.End += r.Intn(5) - 2
	case 5:
		t.Insert += r.Intn(5) - 2
	case 6:
		t.Mid = append(clones(t.Mid), anyToken(r, s))
	case 7:
		t.Mark = anyMark(r, s)
	case 8:
		t.Mark.Attrs = append(slices.Clone(t.Mark.Attrs), api.Attr{Name: "a"})
	case 9:
		t.Name = []string{"a", "src", "A", name17}[r.Intn(4)]
	case 10:
		t.Value = list("x y ~ \x7f")[r.Intn(4)]
	case 11:
		t.To, t.From = t.From, t.To
	default:
		t.To += 50
		if t.Kind == api.StepAttr {
			t.From, t.To = t.To, 0
		}
	}
	return t
}

func TestByChance(t *testing.T) {
	t.Parallel()
	r := rand.New(rand.NewSource(11))
	found := map[int]map[api.Errno]int{}
	for i := range 600 {
		s := []api.Schema{pages(), books(), letters()}[i%3]
		n := whole(r, s, s.Types[0].Name, 0)
		l, _ := row.Of(s, n)
		x := anyStep(r, s, l)
		if r.Intn(3) == 0 {
			x = broken(r, s, x)
		}
		if found[x.Kind] == nil {
			found[x.Kind] = map[api.Errno]int{}
		}
		found[x.Kind][asTold(t, s, n, x)]++
		c := anyChain(r)
		want, left := moveByWords(x, c)
		moveIs(t, x, c, want, left)
		if other := whole(r, s, s.Types[0].Name, 0); i%10 == 0 {
			want, e := betweenByWords(s, n, other)
			betweenIs(t, s, n, other, want, e)
		}
	}
	for kind, all := range map[int][]api.Errno{1: {ok, arg, place, shape}, 2: {ok, arg, place, shape}, 3: {ok, arg, place}, 4: {ok, arg, place}, 5: {ok, arg, place, none}, 6: {ok, arg, place, shape}} {
		for _, e := range all {
			if found[kind][e] < 3 {
				t.Errorf("%d steps of the kind %d with the error %d", found[kind][e], kind, e)
			}
		}
	}
}

// anyChain is a chain of small maps, with a mirror at times.
func anyChain(r *rand.Rand) api.Chain {
	var c api.Chain
	for range r.Intn(4) {
		var m []api.Range
		for at := r.Intn(4); at < 20 && r.Intn(3) > 0; at++ {
			one := api.Range{At: at, Old: r.Intn(4), New: r.Intn(4)}
			if one.Old+one.New > 0 {
				m = append(m, one)
			}
			at += one.Old + r.Intn(5)
		}
		c.Maps = append(c.Maps, m)
	}
	if len(c.Maps) > 0 && r.Intn(2) == 0 {
		first := r.Intn(len(c.Maps))
		c.Maps = append(c.Maps, maps.Turn(c.Maps[first]))
		c.Mirrors = []api.Mirror{{First: first, Second: len(c.Maps) - 1}}
	}
	return c
}

// rowsOf are all rows of up to so many of these tokens.
func rowsOf(some []api.Token, most int) [][]api.Token {
	rows := [][]api.Token{nil}
	for i := 0; i < len(rows); i++ {
		for _, t := range some {
			if len(rows[i]) < most {
				rows = append(rows, append(clones(rows[i]), t))
			}
		}
	}
	return rows
}

// All puts of up to two tokens at all places of a small document.
func TestAllSmallPuts(t *testing.T) {
	t.Parallel()
	n, done := tree("doc(li(p('a'^em)) hr)"), 0
	for _, mid := range rowsOf(tokens("(p ) /hr 'b'^em"), 2) {
		for from := range 8 {
			for to := from; to < 8; to++ {
				if asTold(t, pages(), n, api.Step{Kind: api.StepPut, From: from, To: to, Mid: mid}) == ok {
					done++
				}
			}
		}
	}
	if done < 60 {
		t.Errorf("%d can be done", done)
	}
}

// All wraps by up to three tokens at all places of a small document.
func TestAllSmallWraps(t *testing.T) {
	t.Parallel()
	s, n, done := letters(), tree("doc('a' note[by=]('b'))"), 0
	for _, mid := range [][]api.Token{nil, tokens("'x'"), tokens("(note[by=q] )"), tokens(") (note[by=q]"), tokens("(note[by=q] 'x' )")} {
		for insert := range len(mid) + 1 {
			for i := range 6 * 6 * 6 * 6 {
				x := api.Step{Kind: api.StepWrap, From: i % 6, Gap: i / 6 % 6, End: i / 36 % 6, To: i / 216, Insert: insert, Mid: mid}
				if rising(x.From, x.Gap, x.End, x.To) && asTold(t, s, n, x) == ok {
					done++
				}
			}
		}
	}
	if done < 100 {
		t.Errorf("%d can be done", done)
	}
}

// All marks, bares and swaps of nothing else at all places of documents.
func TestAllMarks(t *testing.T) {
	t.Parallel()
	for _, x := range []struct {
		s   api.Schema
		doc string
		all string
	}{
		{pages(), "doc(h[level=1]('a'^em 'b') p('c'^code br^em 'd') hr)", "em code"}, {letters(), "doc('a'^em note[by=]('b' dot[a=,b=]) dot[a=,b=]^em)", "em"},
		{books(), "top(sec(hr^sub par^sub('a'^sup^b foot^b(par('c')))))", "sub b note[by=x]"},
	} {
		n := tree(x.doc)
		l, _ := row.Of(x.s, n)
		for from := range len(l) + 1 {
			for to := from; to <= len(l); to++ {
				for _, one := range list(x.all) {
					m, _ := marks("^" + one)
					for _, kind := range []int{api.StepMark, api.StepBare} {
						if e := asTold(t, x.s, n, api.Step{Kind: kind, From: from, To: to, Mark: m[0]}); e != ok {
							t.Errorf("%d from %d to %d: error %d", kind, from, to, e)
						}
					}
				}
				if e := asTold(t, x.s, n, api.Step{Kind: api.StepSwap, From: from, To: to, Mid: l[from:to]}); e != ok {
					t.Errorf("swap from %d to %d: error %d", from, to, e)
				}
			}
		}
	}
}

// Steps by chance one behind the other, undone in turn, come back to where they began.
func TestManyUndone(t *testing.T) {
	t.Parallel()
	r := rand.New(rand.NewSource(12))
	for i := range 30 {
		s := []api.Schema{pages(), books(), letters()}[i%3]
		docs, undos := []api.Node{whole(r, s, s.Types[0].Name, 0)}, []api.Step{}
		for range 20 {
			now := docs[len(docs)-1]
			l, _ := row.Of(s, now)
			x := anyStep(r, s, l)
			next, e := step.Do(s, now, x)
			if e != ok {
				continue
			}
			u, _ := step.Undo(s, now, x)
			docs, undos = append(docs, next), append(undos, u)
		}
		now := docs[len(docs)-1]
		for k, u := range slices.Backward(undos) {
			back, e := step.Do(s, now, u)
			if e != ok || !alike(back, docs[k]) {
				t.Fatalf("%s to %s: %s, error %d, want %s", shownStep(u), told(now), told(back), e, told(docs[k]))
			}
			now = back
		}
	}
}

// read makes a step of bytes: numbers, and tokens or marks that they tell.
func read(s api.Schema, text string) api.Step {
	next := func() int {
		if text == "" {
			return 0
		}
		c := text[0]
		text = text[1:]
		return int(c)
	}
	t := api.Step{Kind: next() % 8, From: next() % 32, To: next() % 32, Gap: next() % 32, End: next() % 32, Insert: next() % 8}
	switch t.Kind {
	case 3, 4:
		t.Mark = anyMark(rand.New(rand.NewSource(int64(next()))), s)
	case 5:
		t.Name, t.Value = list("level src alt by a b A")[next()%7], text
	default:
		for text != "" {
			t.Mid = append(t.Mid, anyToken(rand.New(rand.NewSource(int64(next()))), s))
		}
	}
	if next()%8 > 0 {
		for field, n := range numbers(&t) {
			if !slices.Contains(has(t.Kind), field) {
				*n = 0
			}
		}
	}
	return t
}

func FuzzDo(f *testing.F) {
	f.Add("\x01\x03\x05", int64(1), uint8(0))
	f.Add("\x02\x00\x07\x00\x07\x01\x09\x08", int64(2), uint8(0))
	f.Add("\x03\x00\x07\x00\x00\x00\x05", int64(3), uint8(1))
	f.Add("\x04\x02\x06\x00\x00\x00\x05", int64(4), uint8(1))
	f.Add("\x05\x02\x00\x00\x00\x00\x01abc", int64(5), uint8(2))
	f.Add("\x06\x02\x03\x00\x00\x00\x01", int64(6), uint8(2))
	f.Fuzz(func(t *testing.T, text string, seed int64, which uint8) {
		s := []api.Schema{pages(), books(), letters()}[which%3]
		r := rand.New(rand.NewSource(seed))
		n, x, c := whole(r, s, s.Types[0].Name, 0), read(s, text), anyChain(r)
		asTold(t, s, n, x)
		want, left := moveByWords(x, c)
		moveIs(t, x, c, want, left)
	})
}
