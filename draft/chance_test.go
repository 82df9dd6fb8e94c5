package draft_test

import (
	"math/rand"
	"slices"
	"sync"
	"testing"

	"copydesk/api"
	"copydesk/match"
	"copydesk/row"
	"copydesk/schema"
	"copydesk/step"
	"copydesk/trail"
)

// whole is a node of the type typ by chance, that may be (where it is not too deep).
func whole(r *rand.Rand, s api.Schema, typ string, deep int) api.Node {
	t, _ := schema.Type(s, typ)
	n := api.Node{Type: typ, Attrs: attrsBy(r, t.Attrs)}
	if typ == "text" {
		for range 1 + r.Intn(3) {
			n.Text += string(rune('a' + r.Intn(3)))
		}
		return n
	}
	a, _ := schema.Auto(s, typ)
	made := schema.Made(s)
	for state := 0; ; {
		if a.States[state].Ends && (r.Intn(4) == 0 || len(a.States[state].Edges) == 0 || deep > 3) {
			return n
		}
		next := a.States[state].Edges[r.Intn(len(a.States[state].Edges))]
		if fill, ok := match.Fill(a, state, nil, made); deep > 2 && ok && len(fill) > 0 {
			next = api.Edge{Type: fill[0], To: match.Next(a, state, fill[0])}
		}
		kid := whole(r, s, next.Type, deep+1)
		kid.Marks = marked(r, s, t.Marks)
		if len(n.Kids) > 0 && kid.Type == "text" && n.Kids[len(n.Kids)-1].Type == "text" && alike(n.Kids[len(n.Kids)-1].Marks, kid.Marks) {
			continue
		}
		n.Kids = append(n.Kids, kid)
		state = next.To
	}
}

// attrsBy are attributes that fit specs.
func attrsBy(r *rand.Rand, specs []api.AttrSpec) []api.Attr {
	var l []api.Attr
	for _, a := range specs {
		l = append(l, api.Attr{Name: a.Name, Value: list("a b")[r.Intn(2)]})
	}
	return l
}

// marked are a set of marks, of types that are allowed.
func marked(r *rand.Rand, s api.Schema, allowed []string) []api.Mark {
	var l []api.Mark
	for _, m := range s.Marks {
		foreign := func(one api.Mark) bool {
			t := s.Marks[slices.IndexFunc(s.Marks, func(t api.MarkType) bool { return t.Name == one.Type })]
			return slices.Contains(m.Excludes, one.Type) || slices.Contains(t.Excludes, m.Name)
		}
		if r.Intn(4) == 0 && slices.Contains(allowed, m.Name) && !slices.ContainsFunc(l, foreign) {
			l = append(l, api.Mark{Type: m.Name, Attrs: attrsBy(r, m.Attrs)})
		}
	}
	return l
}

// anyMark is a mark that fits.
func anyMark(r *rand.Rand, s api.Schema) api.Mark {
	m := s.Marks[r.Intn(len(s.Marks))]
	return api.Mark{Type: m.Name, Attrs: attrsBy(r, m.Attrs)}
}

// anyToken is a token by chance that may be.
func anyToken(r *rand.Rand, s api.Schema) api.Token {
	typ := s.Types[1+r.Intn(len(s.Types)-1)]
	switch kind := 1 + r.Intn(4); {
	case kind == 2:
		return api.Token{Kind: 2}
	case kind == 4 || typ.Name == "text":
		return api.Token{Kind: 4, Char: byte('a' + r.Intn(3)), Marks: marked(r, s, typ.Marks)}
	case schema.Leaf(s, typ.Name):
		return api.Token{Kind: 3, Type: typ.Name, Attrs: attrsBy(r, typ.Attrs)}
	}
	return api.Token{Kind: 1, Type: typ.Name, Attrs: attrsBy(r, typ.Attrs)}
}

// anyMid are tokens that may stand somewhere: some of l, others, or both.
func anyMid(r *rand.Rand, s api.Schema, l []api.Token) []api.Token {
	from, to := anySpan(r, len(l))
	mid := clones(l[from:min(to, from+6)])
	for range r.Intn(3) {
		mid = slices.Insert(mid, r.Intn(len(mid)+1), anyToken(r, s))
	}
	return mid
}

// anySpan are two places of a row of that length, the first not above the second.
func anySpan(r *rand.Rand, length int) (int, int) {
	from, to := r.Intn(length+1), r.Intn(length+1)
	return min(from, to), max(from, to)
}

// anyStep is a step by chance for the row l, that may be, most often.
func anyStep(r *rand.Rand, s api.Schema, l []api.Token) api.Step {
	t := api.Step{Kind: 1 + r.Intn(6)}
	t.From, t.To = anySpan(r, len(l))
	switch t.Kind {
	case 1:
		if t.Mid = anyMid(r, s, l); r.Intn(2) == 0 {
			t.From, t.To = even(l, t.From, t.To)
			t.Mid = nil
		}
	case 2:
		t.Gap = t.From + r.Intn(t.To-t.From+1)
		t.End = t.Gap + r.Intn(t.To-t.Gap+1)
		t.Mid = anyMid(r, s, l)
		t.Insert = r.Intn(len(t.Mid) + 1)
		if r.Intn(2) == 0 {
			t.From, t.To = even(l, t.From, t.To)
			t.Gap, t.End, t.Insert, t.Mid = t.From, t.To, 1, []api.Token{anyToken(r, s), {Kind: 2}}
		}
	case 3, 4:
		t.Mark = anyMark(r, s)
	case 5:
		t.To, t.Name, t.Value = 0, "src", list("x y z")[r.Intn(3)]
		if t.From < len(l) && len(l[t.From].Attrs) > 0 && r.Intn(4) > 0 {
			t.Name = l[t.From].Attrs[r.Intn(len(l[t.From].Attrs))].Name
		}
	case 6:
		t.Mid = clones(l[t.From:t.To])
		for i := range t.Mid {
			if t.Mid[i].Kind != 2 && r.Intn(2) == 0 {
				t.Mid[i].Marks = marked(r, s, s.Types[1+r.Intn(len(s.Types)-1)].Marks)
			}
		}
		if len(t.Mid) > 0 && r.Intn(4) == 0 {
			t.Mid[r.Intn(len(t.Mid))] = anyToken(r, s)
		}
	}
	return t
}

// even are from and a place behind it, up to to, between which each node ends that begins there: from itself, if there is none other.
func even(l []api.Token, from, to int) (int, int) {
	for ; to > from; to-- {
		if closes, opens := row.Left(l[from:to]); closes == 0 && opens == 0 {
			break
		}
	}
	return from, to
}

// common is a step by chance for the row l, most often one that takes something whole away, or puts a byte.
func common(r *rand.Rand, s api.Schema, l []api.Token) api.Step {
	t := api.Step{Kind: api.StepPut}
	t.From, t.To = anySpan(r, len(l))
	switch r.Intn(5) {
	case 0, 1:
		t.From, t.To = even(l, t.From, t.To)
	case 2:
		t.To, t.Mid = t.From, tokens("'x'")
	default:
		return anyStep(r, s, l)
	}
	return t
}

// beside is a step of any kind but a wrap, somewhere from one place to another, or a little behind.
func beside(r *rand.Rand, s api.Schema, l []api.Token, from, to int) api.Step {
	t := common(r, s, l)
	for t.Kind == api.StepWrap {
		t = common(r, s, l)
	}
	lower, upper := anySpan(r, to-from)
	t.From, t.To = from+lower, from+upper+r.Intn(3)/2
	switch t.Kind {
	case api.StepPut:
		t.Mid = [][]api.Token{nil, tokens("'x'"), tokens("'yz'"), t.Mid}[r.Intn(4)]
	case api.StepAttr:
		t.To = 0
	case api.StepSwap:
		t.Mid = clones(l[min(t.From, len(l)):min(t.To, len(l))])
		if len(t.Mid) > 0 && t.Mid[0].Kind == api.TokChar {
			t.Mid[0].Marks = marked(r, s, s.Types[1+r.Intn(len(s.Types)-1)].Marks)
		}
	}
	return t
}

// What became of a step that was edited.
const (
	isPending = iota
	isConfirmed
	isDropped
	isBack
)

// meeting is a document that several have a draft of, and its log.
type meeting struct {
	testing.TB
	*rand.Rand
	s      api.Schema
	n      api.Node
	log    []api.Logged
	drafts []*both
	fates  []map[uint64]int
	found  map[string]int
}

func newMeeting(t testing.TB, which, doc, acts int64) *meeting {
	s := []api.Schema{pages(), books(), letters()}[uint64(which)%3]
	m := &meeting{TB: t, Rand: rand.New(rand.NewSource(acts)), s: s, found: map[string]int{}}
	m.n = whole(rand.New(rand.NewSource(doc)), s, s.Types[0].Name, 0)
	for i := range uint64(2 + m.Intn(2)) {
		m.drafts = append(m.drafts, newBoth(t, s, m.n, 0, 1+i))
		m.fates = append(m.fates, map[uint64]int{})
	}
	return m
}

// ahead are the confirmed steps that a draft has not taken.
func (m *meeting) ahead(i int) []api.Logged {
	return m.log[m.drafts[i].m.version:]
}

// fate tells what became of a step of one's own, which nothing came of yet.
func (m *meeting) fate(i int, serial uint64, became int) {
	if was, there := m.fates[i][serial]; !there || was != isPending {
		m.Errorf("%d of %d: %d, and was %d, %t", serial, i, became, was, there)
	}
	m.fates[i][serial] = became
}

// edit is a step by chance, often at what was done last.
func (m *meeting) edit(i int) {
	b := m.drafts[i]
	l, _ := row.Of(m.s, b.m.doc())
	for range 4 {
		t := common(m.Rand, m.s, l)
		switch at := m.lately(i); {
		case at != nil && m.Intn(8) == 0:
			t = step.Copy(*at)
		case at != nil && m.Intn(3) > 0:
			t = beside(m.Rand, m.s, l, at.From, max(at.From, at.To, at.From+len(at.Mid)))
		}
		serial, e := b.edit(t)
		if e == ok {
			if _, there := m.fates[i][serial]; there {
				m.Errorf("%d of %d is given twice", serial, i)
			}
			m.fates[i][serial] = isPending
			return
		}
	}
}

// lately is one of one's own that was done lately, or one that waits in the log; nil, if there is none.
func (m *meeting) lately(i int) *api.Step {
	all := slices.Concat(m.drafts[i].m.own, m.ahead(i))
	if len(all) == 0 {
		return nil
	}
	return &all[m.Intn(len(all))].Step
}

// submit puts what is pending into the log, as long as the draft has all of it.
func (m *meeting) submit(i int) {
	if len(m.ahead(i)) > 0 {
		m.found["conflict"]++
		return
	}
	m.log = append(m.log, m.drafts[i].d.Pending(1+m.Intn(4))...)
}

// fetch takes some of what waits in the log, or all.
func (m *meeting) fetch(i, most int) {
	b, l := m.drafts[i], m.ahead(i)
	l = l[:min(most, len(l))]
	dropped := len(b.m.dropped)
	if n, e := b.take(b.m.version, l); n != len(l) || e != ok {
		m.Errorf("%d of %d came, error %d", n, len(l), e)
	}
	for _, c := range l {
		if c.Client == b.m.client {
			m.fate(i, c.Serial, isConfirmed)
		}
	}
	for _, serial := range b.m.dropped[dropped:] {
		m.fate(i, serial, isDropped)
	}
}

// back takes some back, unless some of one's own wait in the log.
func (m *meeting) back(i int) {
	b := m.drafts[i]
	if slices.ContainsFunc(m.ahead(i), func(c api.Logged) bool { return c.Client == b.m.client }) {
		return
	}
	was := b.m.own
	for range b.back(m.Intn(4)) {
		m.fate(i, was[len(was)-1].Serial, isBack)
		was = was[:len(was)-1]
	}
}

// astray hands in what may not come: nothing becomes of it, but what stands ahead.
func (m *meeting) astray(i int) {
	b := m.drafts[i]
	l, _ := row.Of(m.s, b.m.base)
	c := api.Logged{Client: uint64(m.Intn(4)), Serial: uint64(m.Intn(9)), Step: common(m.Rand, m.s, l)}
	if len(b.m.own) > 0 && m.Intn(2) == 0 {
		c = copyOf(b.m.own[m.Intn(len(b.m.own))])
		switch m.Intn(3) {
		case 0:
			c.Serial++
		case 1:
			c.Step.To++
		}
	}
	mine := c.Client == b.m.client && len(b.m.own) > 0 && alike(c, b.m.own[0])
	_, e := step.Do(m.s, b.m.base, c.Step)
	if mine || c.Client != b.m.client && e == ok {
		b.take(b.m.version+1-2*m.Intn(2), []api.Logged{c})
		return
	}
	_, e = b.take(b.m.version, []api.Logged{c})
	m.found[shownError(e)]++
}

// copyOf is c in memory of its own.
func copyOf(c api.Logged) api.Logged {
	c.Step = step.Copy(c.Step)
	return c
}

func shownError(e api.Errno) string {
	for name, one := range errors {
		if one == e {
			return name
		}
	}
	return "ok"
}

// act is one by chance.
func (m *meeting) act() {
	i := m.Intn(len(m.drafts))
	switch m.Intn(12) {
	case 0, 1, 2, 3:
		m.edit(i)
	case 4, 5:
		m.submit(i)
	case 6, 7:
		m.fetch(i, 1+m.Intn(3))
	case 8:
		m.fetch(i, len(m.log))
	case 9:
		m.back(i)
	case 10:
		m.astray(i)
	case 11:
		m.submit(i)
		m.fetch(i, len(m.log))
	}
	m.drafts[i].pendings()
}

// end lets all take all, and fails unless what follows holds (P16.4).
func (m *meeting) end() {
	for i := range m.drafts {
		m.fetch(i, len(m.log))
		m.log = append(m.log, m.drafts[i].d.Pending(64)...)
	}
	var steps []api.Step
	for _, c := range m.log {
		steps = append(steps, c.Step)
	}
	n := m.n
	for l := range slices.Chunk(steps, api.MaxTrail) {
		n, _, _ = trail.Walk(m.s, n, l)
	}
	for i, b := range m.drafts {
		m.fetch(i, len(m.log))
		if !alike(b.d.Doc(), n) || !alike(b.d.Base(), n) || b.d.Version() != len(m.log) {
			m.Errorf("%d at %d: from %s to %s, want %s", i, b.d.Version(), told(b.d.Base()), told(b.d.Doc()), told(n))
		}
		m.judge(i)
	}
}

// judge fails unless each of one's own stands in the log once, or was dropped, or taken back.
func (m *meeting) judge(i int) {
	logged := map[uint64]int{}
	for _, c := range m.log {
		if c.Client == m.drafts[i].m.client {
			logged[c.Serial]++
		}
	}
	for serial, became := range m.fates[i] {
		m.found[list("pending confirmed dropped back")[became]]++
		if became == isPending || logged[serial] > 1 || (logged[serial] == 1) != (became == isConfirmed) {
			m.Errorf("%d of %d: %d, %d times in the log", serial, i, became, logged[serial])
		}
	}
}

// P16.4, and all that is told, by chance.

func TestByChance(t *testing.T) {
	t.Parallel()
	var lock sync.Mutex
	found := map[string]int{}
	t.Run("meetings", func(t *testing.T) {
		for i := range int64(30) {
			t.Run("", func(t *testing.T) {
				t.Parallel()
				m := newMeeting(t, i, 7*i, 1000+i)
				for range 60 {
					m.act()
				}
				m.end()
				lock.Lock()
				defer lock.Unlock()
				for name, times := range m.found {
					found[name] += times
				}
			})
		}
	})
	for name, least := range map[string]int{"confirmed": 200, "dropped": 20, "back": 40, "conflict": 100, "bad": 30, "shape": 5} {
		if found[name] < least {
			t.Errorf("%s: %d", name, found[name])
		}
	}
}

func FuzzDraft(f *testing.F) {
	for i := range int64(4) {
		f.Add(i, i, i+1, byte(30))
	}
	f.Fuzz(func(t *testing.T, which, doc, acts int64, many byte) {
		m := newMeeting(t, which, doc, acts)
		for range many {
			m.act()
		}
		m.end()
	})
}
