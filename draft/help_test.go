package draft_test

import (
	"math"
	"reflect"
	"slices"
	"strconv"
	"strings"
	"testing"

	"copydesk/api"
	"copydesk/draft"
	"copydesk/rebase"
	"copydesk/step"
	"copydesk/trail"
)

const (
	ok    = api.OK
	isNil = api.ErrNil
	arg   = api.ErrArg
	long  = api.ErrLong
	bad   = api.ErrBad
	none  = api.ErrNone
	place = api.ErrPlace
	shape = api.ErrShape
	stale = api.ErrStale
)

// errors are the names by which scripts tell them.
var errors = map[string]api.Errno{"nil": isNil, "arg": arg, "long": long, "bad": bad, "none": none, "place": place, "shape": shape, "stale": stale}

var name17 = strings.Repeat("n", 17)

// alike tells whether all within both is the same, an empty list and none being one.
func alike[T any](a, b T) bool {
	return sameValue(reflect.ValueOf(a), reflect.ValueOf(b))
}

func sameValue(a, b reflect.Value) bool {
	switch a.Kind() {
	case reflect.Slice:
		if a.Len() != b.Len() {
			return false
		}
		for i := range a.Len() {
			if !sameValue(a.Index(i), b.Index(i)) {
				return false
			}
		}
		return true
	case reflect.Struct:
		for i := range a.NumField() {
			if !sameValue(a.Field(i), b.Field(i)) {
				return false
			}
		}
		return true
	}
	return a.Interface() == b.Interface()
}

// What follows goes by the words of the document, one thing behind the other, and asks the calls of the layers below.

// model is what a draft is by the words.
type model struct {
	s       api.Schema
	version int
	client  uint64
	base    api.Node
	own     []api.Logged
	last    uint64
	dropped []uint64
}

// modelOf is that of a draft which New makes of these; nothing with an error.
func modelOf(s api.Schema, n api.Node, version int, client uint64) (*model, api.Errno) {
	// A walk of nothing tells whether n is a document.
	base, _, e := trail.Walk(s, n, nil)
	switch {
	case e != ok:
		return nil, e
	case version < 0, client == 0:
		return nil, arg
	}
	return &model{s: s, version: version, client: client, base: base}, ok
}

func (m *model) steps() []api.Step {
	var l []api.Step
	for _, c := range m.own {
		l = append(l, c.Step)
	}
	return l
}

// doc is what Walk of what is not confirmed comes to from what is (P16.4).
func (m *model) doc() api.Node {
	n, _, e := trail.Walk(m.s, m.base, m.steps())
	if e != ok {
		panic("what is not confirmed can't be walked")
	}
	return n
}

func (m *model) edit(t api.Step) (uint64, api.Errno) {
	if len(m.own) == 64 {
		return 0, long
	}
	if _, e := step.Do(m.s, m.doc(), t); e != ok {
		return 0, e
	}
	m.last++
	m.own = append(m.own, api.Logged{Client: m.client, Serial: m.last, Step: t})
	return m.last, ok
}

func (m *model) take(version int, l []api.Logged) (int, api.Errno) {
	if version != m.version {
		return 0, stale
	}
	for i, c := range l {
		if e := m.come(c); e != ok {
			return i, e
		}
	}
	return len(l), ok
}

func (m *model) come(c api.Logged) api.Errno {
	mine := c.Client == m.client
	if mine && (len(m.own) == 0 || !alike(c, m.own[0])) {
		return bad
	}
	base, e := step.Do(m.s, m.base, c.Step)
	if e != ok {
		return e
	}
	if mine {
		m.own = slices.Clone(m.own[1:])
	} else {
		m.putBehind(c.Step)
	}
	m.version, m.base = m.version+1, base
	return ok
}

// putBehind puts one's own steps behind another one's, which can be done.
func (m *model) putBehind(t api.Step) {
	r, e := rebase.Rebase(m.s, m.base, m.steps(), []api.Step{t})
	if e != ok {
		panic("one's own can't be rebased")
	}
	was := m.own
	m.own = nil
	for k, i := range r.Kept {
		m.own = append(m.own, api.Logged{Client: m.client, Serial: was[i].Serial, Step: r.Steps[k]})
	}
	for _, i := range r.Dropped {
		m.dropped = append(m.dropped, was[i].Serial)
	}
}

func (m *model) back(most int) int {
	k := 0
	for k < most && len(m.own) > 0 {
		m.own = slices.Clone(m.own[:len(m.own)-1])
		k++
	}
	return k
}

// What follows asks the calls, and fails unless they answer what the words tell.

// both is a draft, and what it is by the words.
type both struct {
	testing.TB
	d *draft.Draft
	m *model
}

func newBoth(t testing.TB, s api.Schema, n api.Node, version int, client uint64) *both {
	t.Helper()
	d, e := draft.New(s, n, version, client)
	m, f := modelOf(s, n, version, client)
	if e != ok || f != ok {
		t.Fatalf("New of %s: error %d, by the words %d", told(n), e, f)
	}
	b := &both{t, d, m}
	b.holds()
	return b
}

func (b *both) edit(t api.Step) (uint64, api.Errno) {
	b.Helper()
	serial, e := b.d.Edit(t)
	if wanted, f := b.m.edit(t); serial != wanted || e != f {
		b.Errorf("Edit of %s: %d, error %d, want %d, %d", shownStep(t), serial, e, wanted, f)
	}
	b.holds()
	return serial, e
}

func (b *both) take(version int, l []api.Logged) (int, api.Errno) {
	b.Helper()
	n, e := b.d.Take(version, l)
	if wanted, f := b.m.take(version, l); n != wanted || e != f {
		b.Errorf("Take at %d of %s: %d, error %d, want %d, %d", version, shownLogged(l), n, e, wanted, f)
	}
	b.holds()
	return n, e
}

func (b *both) back(most int) int {
	b.Helper()
	n, e := b.d.Back(most)
	if wanted := b.m.back(most); n != wanted || e != ok {
		b.Errorf("Back of %d: %d, error %d, want %d", most, n, e, wanted)
	}
	b.holds()
	return n
}

// holds fails unless all that the draft tells is what the words tell.
func (b *both) holds() {
	b.Helper()
	d, m := b.d, b.m
	if d.Version() != m.version || d.Client() != m.client || !slices.Equal(d.Dropped(), m.dropped) {
		b.Errorf("version %d, client %d, dropped %v, want %d, %d, %v", d.Version(), d.Client(), d.Dropped(), m.version, m.client, m.dropped)
	}
	if !alike(d.Base(), m.base) || !alike(d.Doc(), m.doc()) {
		b.Errorf("from %s to %s, want from %s to %s", told(d.Base()), told(d.Doc()), told(m.base), told(m.doc()))
	}
	if l := d.Pending(math.MaxInt); !alike(l, m.own) {
		b.Errorf("pending %s, want %s", shownLogged(l), shownLogged(m.own))
	}
}

// pendings fails unless Pending of each number is as many of what is not confirmed.
func (b *both) pendings() {
	b.Helper()
	for _, most := range []int{math.MinInt, -2, -1, 0, 1, 2, 3, 63, 64, 65, 1000, math.MaxInt} {
		if l := b.d.Pending(most); !alike(l, b.m.own[:max(0, min(most, len(b.m.own)))]) {
			b.Errorf("Pending of %d: %s, want of %s", most, shownLogged(l), shownLogged(b.m.own))
		}
	}
}

// A script has a line for each call, and behind " = " what it answers: an error's name, or a number, and perhaps an error's name behind it.
// It may ask for doc, base, version, dropped and pending.

// play fails unless the draft of doc answers what script tells, and is what the words tell all the way.
func play(t testing.TB, s api.Schema, doc string, version int, client uint64, script string) *both {
	t.Helper()
	b := newBoth(t, s, tree(doc), version, client)
	for _, line := range strings.Split(script, "\n") {
		if line = strings.Trim(line, "\t "); line != "" {
			b.line(line)
		}
	}
	b.pendings()
	return b
}

func (b *both) line(line string) {
	b.Helper()
	call, answer, _ := strings.Cut(line+" ", " = ")
	answer = strings.TrimSpace(answer)
	name, rest, _ := strings.Cut(call, " ")
	right, got := false, ""
	switch name {
	case "edit":
		serial, e := b.edit(change(rest))
		right, got = answers(answer, int(serial), e), strconv.Itoa(int(serial))+", error "+strconv.Itoa(int(e))
	case "take":
		at, l, _ := strings.Cut(rest, " ")
		n, e := b.take(numbers(at)[0], logged(l))
		right, got = answers(answer, n, e), strconv.Itoa(n)+", error "+strconv.Itoa(int(e))
	case "back":
		n := b.back(numbers(rest)[0])
		right, got = answers(answer, n, ok), strconv.Itoa(n)
	default:
		right, got = b.asked(name, answer)
	}
	if !right {
		b.Errorf("%s: %s", line, got)
	}
}

// asked tells whether what name asks for is that answer, and what it is.
func (b *both) asked(name, answer string) (bool, string) {
	switch name {
	case "doc":
		return alike(b.d.Doc(), tree(answer)), told(b.d.Doc())
	case "base":
		return alike(b.d.Base(), tree(answer)), told(b.d.Base())
	case "version":
		return b.d.Version() == numbers(answer)[0], strconv.Itoa(b.d.Version())
	case "pending":
		return alike(b.d.Pending(64), logged(answer)), shownLogged(b.d.Pending(64))
	case "dropped":
		var l []string
		for _, serial := range b.d.Dropped() {
			l = append(l, strconv.FormatUint(serial, 10))
		}
		return strings.Join(l, " ") == answer, strings.Join(l, " ")
	}
	panic(name)
}

// answers tells whether a number and an error are what answer tells: no number is 0, no error OK.
func answers(answer string, n int, e api.Errno) bool {
	wanted, f := 0, ok
	for _, one := range list(answer) {
		if i, no := strconv.Atoi(one); no == nil {
			wanted = i
		} else if f = errors[one]; f == ok {
			panic(answer)
		}
	}
	return n == wanted && e == f
}
