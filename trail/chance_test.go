package trail_test

import (
	"math/rand"
	"slices"
	"testing"

	"copydesk/api"
	"copydesk/match"
	"copydesk/row"
	"copydesk/schema"
	"copydesk/step"
)

// whole is a node of the type typ by chance, that may be (where it is not too deep).
func whole(r *rand.Rand, s api.Schema, typ string, deep int) api.Node {
	t, _ := schema.Type(s, typ)
	n := api.Node{Type: typ, Attrs: attrsBy(r, t.Attrs)}
	if typ == "text" {
		for range 1 + r.Intn(3) {
			n.Text += string(rune('a' + r.Intn(3)))
		}
		return n
	}
	a, _ := schema.Auto(s, typ)
	made := schema.Made(s)
	for state := 0; ; {
		if a.States[state].Ends && (r.Intn(4) == 0 || len(a.States[state].Edges) == 0 || deep > 3) {
			return n
		}
		next := a.States[state].Edges[r.Intn(len(a.States[state].Edges))]
		if fill, ok := match.Fill(a, state, nil, made); deep > 2 && ok && len(fill) > 0 {
			next = api.Edge{Type: fill[0], To: match.Next(a, state, fill[0])}
		}
		kid := whole(r, s, next.Type, deep+1)
		kid.Marks = marked(r, s, t.Marks)
		if len(n.Kids) > 0 && kid.Type == "text" && n.Kids[len(n.Kids)-1].Type == "text" && slices.EqualFunc(n.Kids[len(n.Kids)-1].Marks, kid.Marks, sameMark) {
			continue
		}
		n.Kids = append(n.Kids, kid)
		state = next.To
	}
}

// attrsBy are attributes that fit specs.
func attrsBy(r *rand.Rand, specs []api.AttrSpec) []api.Attr {
	var l []api.Attr
	for _, a := range specs {
		l = append(l, api.Attr{Name: a.Name, Value: list("a b")[r.Intn(2)]})
	}
	return l
}

// marked are a set of marks, of types that are allowed.
func marked(r *rand.Rand, s api.Schema, allowed []string) []api.Mark {
	var l []api.Mark
	for _, m := range s.Marks {
		foreign := func(one api.Mark) bool {
			t := s.Marks[slices.IndexFunc(s.Marks, func(t api.MarkType) bool { return t.Name == one.Type })]
			return slices.Contains(m.Excludes, one.Type) || slices.Contains(t.Excludes, m.Name)
		}
		if r.Intn(4) == 0 && slices.Contains(allowed, m.Name) && !slices.ContainsFunc(l, foreign) {
			l = append(l, api.Mark{Type: m.Name, Attrs: attrsBy(r, m.Attrs)})
		}
	}
	return l
}

// anyMark is a mark that fits.
func anyMark(r *rand.Rand, s api.Schema) api.Mark {
	m := s.Marks[r.Intn(len(s.Marks))]
	return api.Mark{Type: m.Name, Attrs: attrsBy(r, m.Attrs)}
}

// anyToken is a token by chance that may be.
func anyToken(r *rand.Rand, s api.Schema) api.Token {
	typ := s.Types[1+r.Intn(len(s.Types)-1)]
	switch kind := 1 + r.Intn(4); {
	case kind == 2:
		return api.Token{Kind: 2}
	case kind == 4 || typ.Name == "text":
		return api.Token{Kind: 4, Char: byte('a' + r.Intn(3)), Marks: marked(r, s, typ.Marks)}
	case schema.Leaf(s, typ.Name):
		return api.Token{Kind: 3, Type: typ.Name, Attrs: attrsBy(r, typ.Attrs)}
	}
	return api.Token{Kind: 1, Type: typ.Name, Attrs: attrsBy(r, typ.Attrs)}
}

// anyMid are tokens that may stand somewhere: some of l, others, or both.
func anyMid(r *rand.Rand, s api.Schema, l []api.Token) []api.Token {
	from, to := anySpan(r, len(l))
	mid := clones(l[from:min(to, from+6)])
	for range r.Intn(3) {
		mid = slices.Insert(mid, r.Intn(len(mid)+1), anyToken(r, s))
	}
	return mid
}

// anySpan are two places of a row of that length, the first not above the second.
func anySpan(r *rand.Rand, length int) (int, int) {
	from, to := r.Intn(length+1), r.Intn(length+1)
	return min(from, to), max(from, to)
}

// anyStep is a step by chance for the row l, that may be, most often.
func anyStep(r *rand.Rand, s api.Schema, l []api.Token) api.Step {
	t := api.Step{Kind: 1 + r.Intn(6)}
	t.From, t.To = anySpan(r, len(l))
	switch t.Kind {
	case 1:
		if t.Mid = anyMid(r, s, l); r.Intn(2) == 0 {
			t.From, t.To = even(l, t.From, t.To)
			t.Mid = nil
		}
	case 2:
		t.Gap = t.From + r.Intn(t.To-t.From+1)
		t.End = t.Gap + r.Intn(t.To-t.Gap+1)
		t.Mid = anyMid(r, s, l)
		t.Insert = r.Intn(len(t.Mid) + 1)
		if r.Intn(2) == 0 {
			t.From, t.To = even(l, t.From, t.To)
			t.Gap, t.End, t.Insert, t.Mid = t.From, t.To, 1, []api.Token{anyToken(r, s), {Kind: 2}}
		}
	case 3, 4:
		t.Mark = anyMark(r, s)
	case 5:
		t.To, t.Name, t.Value = 0, "src", list("x y z")[r.Intn(3)]
		if t.From < len(l) && len(l[t.From].Attrs) > 0 && r.Intn(4) > 0 {
			t.Name = l[t.From].Attrs[r.Intn(len(l[t.From].Attrs))].Name
		}
	case 6:
		t.Mid = clones(l[t.From:t.To])
		for i := range t.Mid {
			if t.Mid[i].Kind != 2 && r.Intn(2) == 0 {
				t.Mid[i].Marks = marked(r, s, s.Types[1+r.Intn(len(s.Types)-1)].Marks)
			}
		}
		if len(t.Mid) > 0 && r.Intn(4) == 0 {
			t.Mid[r.Intn(len(t.Mid))] = anyToken(r, s)
		}
	}
	return t
}

// even are from and a place behind it, up to to, between which each node ends that begins there: from itself, if there is none other.
func even(l []api.Token, from, to int) (int, int) {
	for ; to > from; to-- {
		if closes, opens := row.Left(l[from:to]); closes == 0 && opens == 0 {
			break
		}
	}
	return from, to
}

// beside is a step that may be put together with t, most often.
func beside(r *rand.Rand, s api.Schema, t api.Step, l []api.Token) api.Step {
	switch t.Kind {
	case api.StepPut:
		from, to := t.From+len(t.Mid), t.From+len(t.Mid)
		if r.Intn(2) == 0 {
			from, to = t.From, t.From
		}
		if to += r.Intn(3); r.Intn(2) == 0 {
			from, to = from-(to-from), from
		}
		mid := anyMid(r, s, l)
		if r.Intn(4) > 0 {
			mid = times(tokens("'x'"), r.Intn(3))
		}
		return api.Step{Kind: t.Kind, From: from, To: to, Mid: mid}
	case api.StepMark, api.StepBare:
		t.From += r.Intn(5) - 2
		t.To += r.Intn(5) - 2
	case api.StepAttr:
		t.Value = list("x y z")[r.Intn(3)]
	}
	return t
}

// anyTrail are steps by chance, that can be done from n on, one behind the other, most often.
func anyTrail(r *rand.Rand, s api.Schema, n api.Node) []api.Step {
	var l []api.Step
	for range r.Intn(20) {
		tokens, _ := row.Of(s, n)
		t := anyStep(r, s, tokens)
		for r.Intn(2) == 0 && t.Kind != api.StepPut {
			t = anyStep(r, s, tokens)
		}
		if len(l) > 0 && r.Intn(3) > 0 {
			t = beside(r, s, l[len(l)-1], tokens)
		}
		next, e := step.Do(s, n, t)
		if e == ok {
			n = next
		}
		if e == ok || r.Intn(12) == 0 {
			l = append(l, t)
		}
	}
	return l
}

// P12.3, and all that is told, by chance.

func TestByChance(t *testing.T) {
	t.Parallel()
	r := rand.New(rand.NewSource(12))
	found, joined := map[api.Errno]int{}, map[int]int{}
	for i := range 120 {
		s := []api.Schema{pages(), books(), letters()}[i%3]
		n := whole(r, s, s.Types[0].Name, 0)
		l := anyTrail(r, s, n)
		found[asTold(t, s, n, l)]++
		_, kinds := tightByWords(l)
		for _, kind := range kinds {
			joined[kind]++
		}
	}
	if found[ok] < 70 || found[shape] < 5 || found[arg] < 1 || found[place] < 5 {
		t.Errorf("errors of the trails: %v", found)
	}
	if joined[api.StepPut] < 50 || joined[api.StepMark] < 50 || joined[api.StepBare] < 50 || joined[api.StepAttr] < 10 {
		t.Errorf("kinds of the steps put together: %v", joined)
	}
}

func FuzzWalk(f *testing.F) {
	for i := range int64(6) {
		f.Add(i, i, uint8(i))
	}
	f.Fuzz(func(t *testing.T, doc, steps int64, which uint8) {
		s := []api.Schema{pages(), books(), letters()}[which%3]
		n := whole(rand.New(rand.NewSource(doc)), s, s.Types[0].Name, 0)
		asTold(t, s, n, anyTrail(rand.New(rand.NewSource(steps)), s, n))
	})
}
