package trail_test

import (
	"math"
	"slices"
	"testing"

	"copydesk/api"
	"copydesk/row"
	"copydesk/step"
	"copydesk/trail"
)

// P12.2: Chain, Join, Tight and Same

func TestChain(t *testing.T) {
	for _, x := range []struct {
		steps string
		want  [][]api.Range
	}{
		{"", nil}, {"put 1 1", [][]api.Range{nil}}, {"put 1 1 'x' ; put 3 5 'y'", [][]api.Range{{{At: 1, New: 1}}, {{At: 3, Old: 2, New: 1}}}}, {"put 3 5 ; put 1 1 'x'", [][]api.Range{{{At: 3, Old: 2}}, {{At: 1, New: 1}}}},
		{"mark 0 9 em ; wrap 0 0 7 7 1 (li ) ; bare 0 9 em ; attr 0 level=2 ; swap 0 1 (p ; put 1 2", [][]api.Range{nil, {{At: 0, New: 1}, {At: 7, New: 1}}, nil, nil, nil, {{At: 1, Old: 1}}}},
		// One brings back what the other one takes away, and there is no mirror.
		{"put 1 3 ; put 1 1 'ab'", [][]api.Range{{{At: 1, Old: 2}}, {{At: 1, New: 2}}}},
		// Whatever they are.
		{"put 5 2 'x' ; put 1 1 'x'", [][]api.Range{{{At: 5, Old: -3, New: 1}}, {{At: 1, New: 1}}}},
	} {
		chainIs(t, many(x.steps), api.Chain{Maps: x.want})
	}
	chainIs(t, []api.Step{{Kind: 9, To: 3}, {Kind: -1, To: 3}, change("put 1 2")}, api.Chain{Maps: [][]api.Range{nil, nil, {{At: 1, Old: 1}}}})
	l := repeated("put 1 1 'x'", 300)
	chainIs(t, l, chainByWords(l))
}

func TestJoin(t *testing.T) {
	for _, x := range []struct {
		a, b, want string
	}{
		// The examples.
		{"put 1 1 'x'", "put 2 2 'y'", "put 1 1 'xy'"}, {"put 2 3", "put 1 2", "put 1 3"},
		// The second one begins where what the first one put ends.
		{"put 1 1", "put 1 1", "put 1 1"}, {"put 1 1 'x'", "put 2 2", "put 1 1 'x'"}, {"put 1 3", "put 1 3", "put 1 5"}, {"put 1 3 'xy'", "put 3 4 'z'", "put 1 4 'xyz'"}, {"put 1 3 'wxyz'", "put 5 8", "put 1 6 'wxyz'"}, {"put 2 4", "put 2 2 'x'", "put 2 4 'x'"}, {"put 1 4 'x'", "put 2 5 'y'", "put 1 7 'xy'"},
		{"put 1 1 (li", "put 2 2 (p", "put 1 1 (li (p"}, {"put 1 1 'x'^em", "put 2 2 'y'^code", "put 1 1 'x'^em 'y'^code"}, {"put 1 1 /br", "put 2 2 'y'", "put 1 1 /br 'y'"},
		// The second one ends where the first one begins.
		{"put 2 2 'x'", "put 2 2 'y'", "put 2 2 'yx'"}, {"put 2 4 'x'", "put 2 2 'y'", "put 2 4 'yx'"}, {"put 3 4 'x'", "put 1 3 'yz'", "put 1 4 'yzx'"}, {"put 3 4 'x'", "put 1 3", "put 1 4 'x'"}, {"put 3 4", "put 1 3 'yz'", "put 1 4 'yz'"}, {"put 3 3 'x'", "put 0 3", "put 0 3 'x'"},
		// Neither.
		{"put 1 1 'x'", "put 3 3 'y'", ""}, {"put 1 1 'xy'", "put 2 2 'z'", ""}, {"put 2 2 'x'", "put 1 1 'y'", ""}, {"put 2 4 'x'", "put 1 3 'y'", ""}, {"put 2 4 'x'", "put 4 4 'y'", ""}, {"put 2 3", "put 1 3", ""}, {"put 1 2", "put 2 3", ""}, {"put 1 1 'xyz'", "put 3 4", ""}, {"put 1 3 'x'", "put 0 2", ""},
		// Marks: one and the same, and places that touch or overlap.
		{"mark 1 3 em", "mark 3 5 em", "mark 1 5 em"}, {"mark 3 5 em", "mark 1 3 em", "mark 1 5 em"}, {"mark 1 5 em", "mark 2 3 em", "mark 1 5 em"}, {"mark 2 3 em", "mark 1 5 em", "mark 1 5 em"}, {"mark 1 4 em", "mark 2 6 em", "mark 1 6 em"}, {"mark 2 6 em", "mark 1 4 em", "mark 1 6 em"}, {"mark 2 2 em", "mark 2 2 em", "mark 2 2 em"}, {"mark 2 2 em", "mark 2 4 em", "mark 2 4 em"}, {"mark 2 4 em", "mark 4 4 em", "mark 2 4 em"},
		{"bare 1 3 em", "bare 3 5 em", "bare 1 5 em"}, {"bare 3 5 em", "bare 1 3 em", "bare 1 5 em"}, {"bare 1 5 em", "bare 2 3 em", "bare 1 5 em"}, {"mark 1 3 a[href=x,title=]", "mark 2 5 a[href=x,title=]", "mark 1 5 a[href=x,title=]"}, {"bare 1 3 a[href=x]", "bare 2 5 a[href=x]", "bare 1 5 a[href=x]"},
		{"mark 1 3 em", "mark 4 5 em", ""}, {"mark 4 5 em", "mark 1 3 em", ""}, {"bare 1 3 em", "bare 4 5 em", ""}, {"bare 4 5 em", "bare 1 3 em", ""}, {"mark 1 3 em", "mark 3 5 code", ""}, {"bare 1 3 em", "bare 3 5 code", ""}, {"mark 1 3 em", "bare 1 3 em", ""}, {"bare 1 3 em", "mark 1 3 em", ""},
		{"mark 1 3 a[href=x]", "mark 3 5 a[href=y]", ""}, {"mark 1 3 a[href=x]", "mark 3 5 a", ""}, {"mark 1 3 a", "mark 3 5 a[href=x]", ""}, {"bare 1 3 a[href=x,title=y]", "bare 3 5 a[href=x]", ""}, {"mark 1 3 a[href=x]", "mark 3 5 a[hrefx=]", ""},
		// Attributes: of one place and Name.
		{"attr 2 level=1", "attr 2 level=3", "attr 2 level=3"}, {"attr 2 level=1", "attr 2 level=1", "attr 2 level=1"}, {"attr 2 level=1", "attr 2 level=", "attr 2 level="}, {"attr 2 level=1", "attr 3 level=3", ""}, {"attr 3 level=1", "attr 2 level=1", ""}, {"attr 2 level=1", "attr 2 levels=1", ""}, {"attr 2 src=x", "attr 2 alt=x", ""},
		// All others.
		{"wrap 0 1 8 9 0", "wrap 0 1 8 9 0", ""}, {"wrap 1 1 1 1 1 'x'", "wrap 2 2 2 2 1 'y'", ""}, {"swap 1 2 'x'", "swap 2 3 'y'", ""}, {"swap 1 2 'x'", "swap 1 2 'x'", ""}, {"swap 1 1", "swap 1 1", ""}, {"put 1 1 'x'", "wrap 2 2 2 2 1 'y'", ""}, {"wrap 1 1 1 1 1 'x'", "put 2 2 'y'", ""}, {"put 1 1", "mark 1 1 em", ""}, {"mark 1 1 em", "put 1 1", ""}, {"swap 1 1", "put 1 1", ""}, {"put 1 1", "swap 1 1", ""}, {"attr 1 a=b", "put 1 1", ""}, {"put 0 0", "attr 0 a=b", ""},
	} {
		if x.want == "" {
			joinIs(t, change(x.a), change(x.b), api.Step{}, false)
			tightIs(t, many(x.a+" ; "+x.b), many(x.a+" ; "+x.b))
			continue
		}
		joinIs(t, change(x.a), change(x.b), change(x.want), true)
		tightIs(t, many(x.a+" ; "+x.b), many(x.want))
	}
}

// wild are steps of each kind, and of none, with all that no step of that kind has.
func wild() []api.Step {
	var all []api.Step
	for kind := -1; kind <= 8; kind++ {
		for _, x := range []api.Step{
			{}, {From: 2, To: 1}, {From: 1, To: -2, Gap: 3, End: -4, Insert: 5}, {From: 2, To: 4, Gap: 1, Mid: tokens("'x' /zz[a=b]^zz[c=d]"), Mark: api.Mark{Type: "em", Attrs: []api.Attr{{Name: "a"}}}, Name: "a", Value: "b"},
			{From: 4, To: 2, Insert: 1, Mid: tokens(")"), Mark: api.Mark{Type: "em", Attrs: []api.Attr{{Name: "a"}}}, Name: "a", Value: "\n"}, {From: 2, To: 2, End: 7, Mark: api.Mark{Type: "zz"}, Name: name17}, {From: 2, To: 3, Name: name17, Value: "c", Mid: tokens("'\x00'")},
			{From: math.MinInt, To: math.MaxInt, Mid: tokens("'a'")}, {From: math.MaxInt, To: math.MinInt, Name: "a"},
		} {
			x.Kind = kind
			all = append(all, x)
		}
	}
	return all
}

// Whatever the two are, they are put together by the words, and what comes has nothing else than its kind has; of StepAttrs the second one, as it is.
func TestJoinOfAnySteps(t *testing.T) {
	found := map[int]int{}
	for _, a := range wild() {
		for _, b := range wild() {
			want, can := joinByWords(a, b)
			joinIs(t, a, b, want, can)
			tight, _ := tightByWords([]api.Step{a, b, b, a})
			tightIs(t, []api.Step{a, b, b, a}, tight)
			if can {
				found[a.Kind]++
			}
		}
	}
	for _, kind := range []int{api.StepPut, api.StepMark, api.StepBare, api.StepAttr} {
		if found[kind] < 5 {
			t.Errorf("%d pairs of the kind %d", found[kind], kind)
		}
	}
	if len(found) != 4 {
		t.Error(found)
	}
	all := api.Step{From: 1, To: 1, Gap: 2, End: 3, Insert: 4, Mid: tokens("'x'"), Mark: api.Mark{Type: "em"}, Name: "a", Value: "b"}
	put, mark, attr := all, all, all
	put.Kind, mark.Kind, attr.Kind = api.StepPut, api.StepMark, api.StepAttr
	joinIs(t, put, put, change("put 1 1 'xx'"), true)
	joinIs(t, mark, mark, change("mark 1 1 em"), true)
	attr.Value = "c"
	joinIs(t, all, attr, api.Step{}, false)
	joinIs(t, change("attr 1 a=b"), attr, attr, true)
	joinIs(t, attr, change("attr 1 a=b"), change("attr 1 a=b"), true)
}

// All pairs of puts, and of marks, of small numbers, those from above to too.
func TestJoinOfAllSmallSteps(t *testing.T) {
	for i := range 4 * 4 * 4 * 4 * 3 * 3 {
		a, b := api.Step{Kind: api.StepPut, From: i % 4, To: i / 4 % 4}, api.Step{Kind: api.StepPut, From: i / 16 % 4, To: i / 64 % 4}
		mark, more := a, b
		a.Mid, b.Mid = tokens("'ab'")[:i/256%3], tokens("'cd'")[:i/768]
		want, can := joinByWords(a, b)
		joinIs(t, a, b, want, can)
		for kind := api.StepMark; kind <= api.StepBare; kind++ {
			mark.Kind, more.Kind = kind, kind
			mark.Mark.Type, more.Mark.Type = "em", list("em code em")[i%3]
			want, can := joinByWords(mark, more)
			joinIs(t, mark, more, want, can)
		}
	}
}

// All pairs of small puts one behind the other come to what both put together do.
func TestJoinComesToTheSame(t *testing.T) {
	t.Parallel()
	n, joined := tree("doc('a' note[by=]('b') 'c')"), 0
	puts := func(length int, mids ...string) []api.Step {
		var l []api.Step
		for from := range length + 1 {
			for to := from; to <= length; to++ {
				for _, mid := range mids {
					l = append(l, api.Step{Kind: api.StepPut, From: from, To: to, Mid: tokens(mid)})
				}
			}
		}
		return l
	}
	for _, a := range puts(5, "", "'x'", "(note[by=q] 'y' )") {
		now, e := step.Do(letters(), n, a)
		if e != ok {
			continue
		}
		l, _ := row.Of(letters(), now)
		for _, b := range puts(len(l), "", "'z'^em") {
			want, f := step.Do(letters(), now, b)
			both, can := trail.Join(a, b)
			if f != ok || !can {
				continue
			}
			joined++
			if got, g := step.Do(letters(), n, both); g != ok || !alike(got, want) {
				t.Errorf("%s and %s, together %s: %s, error %d, want %s", shownStep(a), shownStep(b), shownStep(both), told(got), g, told(want))
			}
		}
	}
	if joined < 100 {
		t.Errorf("%d pairs", joined)
	}
}

func TestTight(t *testing.T) {
	for _, x := range []struct {
		steps, want string
	}{
		{"", ""}, {"put 1 1 'x'", "put 1 1 'x'"}, {"put 1 1 'x' ; put 2 2 'y' ; put 3 3 'z'", "put 1 1 'xyz'"}, {"put 3 4 ; put 2 3 ; put 1 2", "put 1 4"}, {"put 1 1 'z' ; put 1 1 'y' ; put 1 1 'x'", "put 1 1 'xyz'"},
		// Ahead and behind in turn; what came of those ahead is what the next one is held against.
		{"put 3 3 'c' ; put 4 4 'd' ; put 3 3 'b' ; put 3 3 'a' ; put 7 8 'e'", "put 3 4 'abcde'"}, {"put 3 4 'c' ; put 2 3 'b' ; put 4 5 'd' ; put 1 2 ; put 4 4 'e' ; put 1 1 'a'", "put 1 5 'abcde'"}, {"put 3 3 'xy' ; put 2 3 ; put 4 5 'z' ; put 5 6", "put 2 5 'xyz'"}, {"put 5 5 ; put 5 5 ; put 5 5 'ab' ; put 7 7", "put 5 5 'ab'"},
		{"put 3 3 'ab' ; put 5 5 'c' ; put 5 5 'd' ; put 6 6 'e'", "put 3 3 'abc' ; put 5 5 'de'"}, {"put 1 1 'x' ; put 2 2 'y' ; put 2 2 'z'", "put 1 1 'xy' ; put 2 2 'z'"},
		// What lies between keeps others apart; what was put together is held against no one ahead of it again.
		{"put 1 1 'x' ; mark 1 2 em ; put 2 2 'y'", "put 1 1 'x' ; mark 1 2 em ; put 2 2 'y'"}, {"put 1 1 'x' ; put 5 5 'y' ; put 2 2 'z'", "put 1 1 'x' ; put 5 5 'y' ; put 2 2 'z'"}, {"mark 1 2 em ; bare 1 2 em ; mark 1 2 em", "mark 1 2 em ; bare 1 2 em ; mark 1 2 em"}, {"wrap 0 1 8 9 0 ; wrap 0 1 8 9 0", "wrap 0 1 8 9 0 ; wrap 0 1 8 9 0"}, {"swap 1 2 'a' ; swap 1 2 'a'", "swap 1 2 'a' ; swap 1 2 'a'"},
		{"mark 3 4 em ; mark 5 6 em ; mark 4 5 em ; mark 2 3 em", "mark 3 4 em ; mark 4 6 em ; mark 2 3 em"}, {"mark 3 4 em ; mark 4 6 em ; mark 1 3 em ; mark 0 1 code ; mark 1 9 code", "mark 1 6 em ; mark 0 9 code"}, {"bare 3 4 em ; bare 4 6 em ; mark 4 6 em ; bare 4 6 em ; bare 6 6 em", "bare 3 6 em ; mark 4 6 em ; bare 4 6 em"},
		{"attr 2 level=1 ; attr 2 level=2 ; attr 2 level=3 ; attr 3 level=4 ; attr 2 level=5", "attr 2 level=3 ; attr 3 level=4 ; attr 2 level=5"}, {"attr 2 a=1 ; attr 2 b=1 ; attr 2 a=2", "attr 2 a=1 ; attr 2 b=1 ; attr 2 a=2"},
		{"put 1 1 'x' ; put 2 2 'y' ; mark 1 2 em ; mark 2 3 em ; put 3 3 'z' ; put 3 3 'a' ; attr 0 a=b ; attr 0 a=c", "put 1 1 'xy' ; mark 1 3 em ; put 3 3 'az' ; attr 0 a=c"},
		// Steps that may not be.
		{"put 2 1 'x' ; put 3 1 'y'", "put 2 -1 'xy'"}, {"mark 5 1 em ; mark 1 5 em ; mark 5 1 em", "mark 1 5 em"}, {"mark 5 1 em ; mark 2 3 em", "mark 5 1 em ; mark 2 3 em"}, {"mark 5 1 em ; mark 5 5 em", "mark 5 1 em ; mark 5 5 em"},
	} {
		tightIs(t, many(x.steps), many(x.want))
	}
}

// So many puts that each is written once must do, ahead and behind.
func TestTightOfVeryMany(t *testing.T) {
	t.Parallel()
	var behind, ahead, turns []api.Step
	const most = 1 << 17
	for i := range most {
		char := []api.Token{{Kind: api.TokChar, Char: byte('a' + i%26)}}
		behind = append(behind, api.Step{Kind: api.StepPut, From: i, To: i, Mid: char})
		ahead = append(ahead, api.Step{Kind: api.StepPut, Mid: char})
		turns = append(turns, api.Step{Kind: api.StepPut, From: i * (i % 2), To: i * (i % 2), Mid: char})
	}
	all := make([]api.Token, most)
	for i := range all {
		all[i] = behind[i].Mid[0]
	}
	same := func(what string, l []api.Step, want []api.Token) {
		got := trail.Tight(l)
		if len(got) != 1 || !equalSteps(got[0], api.Step{Kind: api.StepPut, Mid: want}) {
			t.Errorf("%s: %s", what, shownSteps(got))
		}
	}
	same("behind", behind, all)
	mixed := make([]api.Token, 0, most)
	for i := most - 2; i >= 0; i -= 2 {
		mixed = append(mixed, all[i])
	}
	for i := 1; i < most; i += 2 {
		mixed = append(mixed, all[i])
	}
	same("in turns", turns, mixed)
	slices.Reverse(all)
	same("ahead", ahead, all)
	if got := trail.Tight(repeated("wrap 0 0 1 1 0", 300)); len(got) != 300 {
		t.Error(len(got))
	}
}

func TestSame(t *testing.T) {
	all := [][]api.Step{nil, many("put 1 1 'x'"), many("put 1 1 'x' ; put 2 2 'y'"), many("put 2 2 'y' ; put 1 1 'x'"), many("put 1 1 'xy'"), many("put 1 1 'x' ; put 2 2 'z'"), many("put 1 1 'z' ; put 2 2 'y'"), many("put 2 2 'y'"), {{}}, {{}, {}}, many("put 1 1 'x' ; put 2 2 'y' ; put 1 1"), repeated("put 1 1", 300), repeated("put 1 1", 301)}
	for _, x := range wild() {
		all = append(all, []api.Step{x}, []api.Step{x, x})
	}
	for i, a := range all {
		for k, b := range all {
			if got := trail.Same(a, b); got != equalTrails(a, b) {
				t.Errorf("Same of %d, %s, and %d, %s: %t", i, shownSteps(a), k, shownSteps(b), got)
			}
		}
	}
	other := repeated("put 1 1 'x'", 300)
	other[299].Value = "a"
	if trail.Same(repeated("put 1 1 'x'", 300), other) {
		t.Error("Same tells nothing of the last step")
	}
}
