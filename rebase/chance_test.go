package rebase_test

import (
	"math/rand"
	"slices"
	"testing"

	"copydesk/api"
	"copydesk/match"
	"copydesk/row"
	"copydesk/schema"
	"copydesk/step"
)

// whole is a node of the type typ by chance, that may be (where it is not too deep).
func whole(r *rand.Rand, s api.Schema, typ string, deep int) api.Node {
	t, _ := schema.Type(s, typ)
	n := api.Node{Type: typ, Attrs: attrsBy(r, t.Attrs)}
	if typ == "text" {
		for range 1 + r.Intn(3) {
			n.Text += string(rune('a' + r.Intn(3)))
		}
		return n
	}
	a, _ := schema.Auto(s, typ)
	made := schema.Made(s)
	for state := 0; ; {
		if a.States[state].Ends && (r.Intn(4) == 0 || len(a.States[state].Edges) == 0 || deep > 3) {
			return n
		}
		next := a.States[state].Edges[r.Intn(len(a.States[state].Edges))]
		if fill, ok := match.Fill(a, state, nil, made); deep > 2 && ok && len(fill) > 0 {
			next = api.Edge{Type: fill[0], To: match.Next(a, state, fill[0])}
		}
		kid := whole(r, s, next.Type, deep+1)
		kid.Marks = marked(r, s, t.Marks)
		if len(n.Kids) > 0 && kid.Type == "text" && n.Kids[len(n.Kids)-1].Type == "text" && alike(n.Kids[len(n.Kids)-1].Marks, kid.Marks) {
			continue
		}
		n.Kids = append(n.Kids, kid)
		state = next.To
	}
}

// attrsBy are attributes that fit specs.
func attrsBy(r *rand.Rand, specs []api.AttrSpec) []api.Attr {
	var l []api.Attr
	for _, a := range specs {
		l = append(l, api.Attr{Name: a.Name, Value: list("a b")[r.Intn(2)]})
	}
	return l
}

// marked are a set of marks, of types that are allowed.
func marked(r *rand.Rand, s api.Schema, allowed []string) []api.Mark {
	var l []api.Mark
	for _, m := range s.Marks {
		foreign := func(one api.Mark) bool {
			t := s.Marks[slices.IndexFunc(s.Marks, func(t api.MarkType) bool { return t.Name == one.Type })]
			return slices.Contains(m.Excludes, one.Type) || slices.Contains(t.Excludes, m.Name)
		}
		if r.Intn(4) == 0 && slices.Contains(allowed, m.Name) && !slices.ContainsFunc(l, foreign) {
			l = append(l, api.Mark{Type: m.Name, Attrs: attrsBy(r, m.Attrs)})
		}
	}
	return l
}

// anyMark is a mark that fits.
func anyMark(r *rand.Rand, s api.Schema) api.Mark {
	m := s.Marks[r.Intn(len(s.Marks))]
	return api.Mark{Type: m.Name, Attrs: attrsBy(r, m.Attrs)}
}

// anyToken is a token by chance that may be.
func anyToken(r *rand.Rand, s api.Schema) api.Token {
	typ := s.Types[1+r.Intn(len(s.Types)-1)]
	switch kind := 1 + r.Intn(4); {
	case kind == 2:
		return api.Token{Kind: 2}
	case kind == 4 || typ.Name == "text":
		return api.Token{Kind: 4, Char: byte('a' + r.Intn(3)), Marks: marked(r, s, typ.Marks)}
	case schema.Leaf(s, typ.Name):
		return api.Token{Kind: 3, Type: typ.Name, Attrs: attrsBy(r, typ.Attrs)}
	}
	return api.Token{Kind: 1, Type: typ.Name, Attrs: attrsBy(r, typ.Attrs)}
}

// anyMid are tokens that may stand somewhere: some of l, others, or both.
func anyMid(r *rand.Rand, s api.Schema, l []api.Token) []api.Token {
	from, to := anySpan(r, len(l))
	mid := clones(l[from:min(to, from+6)])
	for range r.Intn(3) {
		mid = slices.Insert(mid, r.Intn(len(mid)+1), anyToken(r, s))
	}
	return mid
}

// anySpan are two places of a row of that length, the first not above the second.
func anySpan(r *rand.Rand, length int) (int, int) {
	from, to := r.Intn(length+1), r.Intn(length+1)
	return min(from, to), max(from, to)
}

// anyStep is a step by chance for the row l, that may be, most often.
func anyStep(r *rand.Rand, s api.Schema, l []api.Token) api.Step {
	t := api.Step{Kind: 1 + r.Intn(6)}
	t.From, t.To = anySpan(r, len(l))
	switch t.Kind {
	case 1:
		if t.Mid = anyMid(r, s, l); r.Intn(2) == 0 {
			t.From, t.To = even(l, t.From, t.To)
			t.Mid = nil
		}
	case 2:
		t.Gap = t.From + r.Intn(t.To-t.From+1)
		t.End = t.Gap + r.Intn(t.To-t.Gap+1)
		t.Mid = anyMid(r, s, l)
		t.Insert = r.Intn(len(t.Mid) + 1)
		if r.Intn(2) == 0 {
			t.From, t.To = even(l, t.From, t.To)
			t.Gap, t.End, t.Insert, t.Mid = t.From, t.To, 1, []api.Token{anyToken(r, s), {Kind: 2}}
		}
	case 3, 4:
		t.Mark = anyMark(r, s)
	case 5:
		t.To, t.Name, t.Value = 0, "src", list("x y z")[r.Intn(3)]
		if t.From < len(l) && len(l[t.From].Attrs) > 0 && r.Intn(4) > 0 {
			t.Name = l[t.From].Attrs[r.Intn(len(l[t.From].Attrs))].Name
		}
	case 6:
		t.Mid = clones(l[t.From:t.To])
		for i := range t.Mid {
			if t.Mid[i].Kind != 2 && r.Intn(2) == 0 {
				t.Mid[i].Marks = marked(r, s, s.Types[1+r.Intn(len(s.Types)-1)].Marks)
			}
		}
		if len(t.Mid) > 0 && r.Intn(4) == 0 {
			t.Mid[r.Intn(len(t.Mid))] = anyToken(r, s)
		}
	}
	return t
}

// even are from and a place behind it, up to to, between which each node ends that begins there: from itself, if there is none other.
func even(l []api.Token, from, to int) (int, int) {
	for ; to > from; to-- {
		if closes, opens := row.Left(l[from:to]); closes == 0 && opens == 0 {
			break
		}
	}
	return from, to
}

// common is a step by chance for the row l, most often one that takes something whole away, or puts a byte.
func common(r *rand.Rand, s api.Schema, l []api.Token) api.Step {
	t := api.Step{Kind: api.StepPut}
	t.From, t.To = anySpan(r, len(l))
	switch r.Intn(5) {
	case 0, 1:
		t.From, t.To = even(l, t.From, t.To)
	case 2:
		t.To, t.Mid = t.From, tokens("'x'")
	default:
		return anyStep(r, s, l)
	}
	return t
}

// beside is a step of any kind but a wrap, somewhere from one place to another, or a little behind.
func beside(r *rand.Rand, s api.Schema, l []api.Token, from, to int) api.Step {
	t := common(r, s, l)
	for t.Kind == api.StepWrap {
		t = common(r, s, l)
	}
	lower, upper := anySpan(r, to-from)
	t.From, t.To = from+lower, from+upper+r.Intn(3)/2
	switch t.Kind {
	case api.StepPut:
		t.Mid = [][]api.Token{nil, tokens("'x'"), tokens("'yz'"), t.Mid}[r.Intn(4)]
	case api.StepAttr:
		t.To = 0
	case api.StepSwap:
		t.Mid = clones(l[min(t.From, len(l)):min(t.To, len(l))])
		if len(t.Mid) > 0 && t.Mid[0].Kind == api.TokChar {
			t.Mid[0].Marks = marked(r, s, s.Types[1+r.Intn(len(s.Types)-1)].Marks)
		}
	}
	return t
}

// anyTrail are steps by chance, so many at most, that can be done from n on, one behind the other, often at what one of them put, or at what one of others took, or that one; now and then it ends by one that can't be done.
func anyTrail(r *rand.Rand, s api.Schema, n api.Node, others []api.Step, most int) []api.Step {
	var l []api.Step
	for range 4 * most {
		tokens, _ := row.Of(s, n)
		t := common(r, s, tokens)
		switch {
		case len(others) > 0 && r.Intn(6) == 0:
			t = step.Copy(others[r.Intn(len(others))])
		case len(l) > 0 && r.Intn(3) > 0:
			at := l[r.Intn(len(l))]
			t = beside(r, s, tokens, at.From, at.From+len(at.Mid))
		case len(others) > 0 && r.Intn(3) > 0:
			at := others[r.Intn(len(others))]
			t = beside(r, s, tokens, at.From, max(at.From, at.To))
		}
		next, e := step.Do(s, n, t)
		if e == ok {
			n = next
		}
		if e == ok || r.Intn(90) == 0 {
			l = append(l, t)
		}
		if e != ok && len(l) > 0 && step.Same(l[len(l)-1], t) || len(l) == most {
			return l
		}
	}
	return l
}

// chanced are a schema, a document of it, and one's own and the others' steps by chance.
func chanced(which, doc, own, others int64) (api.Schema, api.Node, []api.Step, []api.Step) {
	s := []api.Schema{pages(), books(), letters()}[uint64(which)%3]
	n := whole(rand.New(rand.NewSource(doc)), s, s.Types[0].Name, 0)
	r, p := rand.New(rand.NewSource(own)), rand.New(rand.NewSource(others))
	theirs := anyTrail(p, s, n, nil, 1+p.Intn(4))
	return s, n, anyTrail(r, s, n, theirs, 1+r.Intn(6)), theirs
}

// P13.3, and all that is told, by chance.

func TestByChance(t *testing.T) {
	t.Parallel()
	type fate struct{ kind, became int }
	found, fates := map[api.Errno]int{}, map[fate]int{}
	for i := range int64(80) {
		s, n, own, others := chanced(i, 7*i, 1000+i, 2000+i)
		became, e := asTold(t, s, n, own, others)
		found[e]++
		for k, why := range became {
			fates[fate{own[k].Kind, why}]++
		}
	}
	if found[ok] < 60 || len(found) < 2 {
		t.Errorf("errors: %v", found)
	}
	for kind, least := range map[int]int{api.StepPut: 100, api.StepMark: 10, api.StepBare: 10, api.StepSwap: 10} {
		if fates[fate{kind, isKept}] < least || fates[fate{kind, isGone}] < max(least/20, 1) {
			t.Errorf("of the kind %d: %v", kind, fates)
		}
	}
	if fates[fate{api.StepPut, isNothing}] < 2 {
		t.Errorf("came to nothing: %v", fates)
	}
}

func FuzzRebase(f *testing.F) {
	for i := range int64(6) {
		f.Add(i, i, i+1, i+2)
	}
	f.Fuzz(func(t *testing.T, which, doc, own, others int64) {
		s, n, mine, theirs := chanced(which, doc, own, others)
		asTold(t, s, n, mine, theirs)
	})
}
