package step_test

import (
	"math"
	"slices"
	"strconv"
	"strings"
	"testing"

	"copydesk/api"
	"copydesk/maps"
	"copydesk/step"
)

// P11.2: Move

// chain is the one that s tells: its maps, " / " between them, each as Ranges At,Old,New, and behind " ; " its Mirrors, First~Second.
func chain(s string) api.Chain {
	var c api.Chain
	all, mirrors, _ := strings.Cut(s, ";")
	number := func(s string) int {
		n, e := strconv.Atoi(s)
		if e != nil {
			panic(s)
		}
		return n
	}
	for _, m := range strings.Split(all, "/") {
		var ranges []api.Range
		for _, r := range list(m) {
			n := strings.Split(r, ",")
			ranges = append(ranges, api.Range{At: number(n[0]), Old: number(n[1]), New: number(n[2])})
		}
		c.Maps = append(c.Maps, ranges)
	}
	for _, m := range list(mirrors) {
		first, second, _ := strings.Cut(m, "~")
		c.Mirrors = append(c.Mirrors, api.Mirror{First: number(first), Second: number(second)})
	}
	return c
}

// moved fails unless x comes to want behind the chain that c tells; gone, if want is no step.
func moved(t *testing.T, x, c, want string) {
	t.Helper()
	if want == "gone" {
		moveIs(t, change(x), chain(c), api.Step{}, false)
		return
	}
	moveIs(t, change(x), chain(c), change(want), true)
}

func TestMove(t *testing.T) {
	for _, x := range []struct{ step, chain, want string }{
		// What came ahead moves it.
		{"put 5 5 'y'", "2,0,1", "put 6 6 'y'"},
		// Of a put From leans behind, To ahead: what comes at its ends stays outside.
		{"put 2 5 'y'", "", "put 2 5 'y'"}, {"put 2 5 'y'", "2,0,3", "put 5 8 'y'"}, {"put 2 5 'y'", "5,0,3", "put 2 5 'y'"}, {"put 2 5 'y'", "3,0,3", "put 2 8 'y'"}, {"put 2 5 'y'", "6,0,3", "put 2 5 'y'"}, {"put 2 5 'y'", "1,0,3", "put 5 8 'y'"},
		{"put 2 5 'y'", "2,0,3 5,0,1", "put 5 8 'y'"}, {"put 2 5 'y'", "2,3,1", "put 2 3 'y'"}, {"put 2 5 'y'", "2,3,0", "put 2 2 'y'"}, {"put 2 5 'y'", "3,1,0", "put 2 4 'y'"}, {"put 2 5 'y'", "0,3,0", "put 0 2 'y'"}, {"put 2 5 'y'", "4,3,0", "put 2 4 'y'"}, {"put 2 5 'y'", "0,3,2", "put 2 4 'y'"}, {"put 2 5 'y'", "4,3,2", "put 2 4 'y'"},
		{"put 2 5 'y'", "0,2,1", "put 1 4 'y'"}, {"put 2 5 'y'", "5,2,1", "put 2 5 'y'"}, {"put 2 5 'y'", "0,2,0 5,1,0", "put 0 3 'y'"},
		// Where To would be below From: an insertion at which something comes, a stretch that another one takes the place of.
		{"put 2 2 'y'", "2,0,3", "put 5 5 'y'"}, {"put 2 2", "2,0,3", "put 5 5"}, {"put 2 2 'y'", "2,0,3 5,0,1", "put 5 5 'y'"}, {"put 2 2 'y'", "2,3,0", "put 2 2 'y'"}, {"put 2 2 'y'", "2,3,1", "put 2 2 'y'"}, {"put 5 5 'y'", "2,3,1", "put 3 3 'y'"}, {"put 2 2 'y'", "1,1,3", "put 4 4 'y'"},
		// Across at both ends: gone; at one: not.
		{"put 3 4 'y'", "2,3,0", "gone"}, {"put 3 4 'y'", "2,3,7", "gone"}, {"put 3 3 'y'", "2,3,1", "gone"}, {"put 2 4 'y'", "2,3,1", "put 2 2 'y'"}, {"put 3 5 'y'", "2,3,1", "put 3 3 'y'"}, {"put 2 5 'y'", "2,3,1", "put 2 3 'y'"}, {"put 2 5 'y'", "1,5,0", "gone"}, {"put 2 5 'y'", "2,4,0", "put 2 2 'y'"}, {"put 2 5 'y'", "1,4,0", "put 1 1 'y'"},
		{"put 3 8 'y'", "2,2,0 7,2,0", "gone"}, {"put 3 8 'y'", "2,2,0 7,1,0", "put 2 5 'y'"}, {"put 3 8 'y'", "3,2,0 7,2,0", "put 3 5 'y'"}, {"put 3 8 'y'", "2,2,1 7,2,1", "gone"},
		// Across told by different maps; ahead in one and behind in another is not across.
		{"put 3 8 'y'", "2,2,0 / 5,2,0", "gone"}, {"put 3 8 'y'", "7,2,0 / 2,2,0", "gone"}, {"put 3 3 'y'", "3,2,0 / 1,2,0", "put 1 1 'y'"}, {"put 3 3 'y'", "2,1,0 / 2,1,0", "put 2 2 'y'"},
		// What is brought back is found again.
		{"put 3 4 'y'", "2,3,0 / 2,0,3 ; 0~1", "put 3 4 'y'"}, {"put 3 4 'y'", "2,3,0 / 2,0,3", "gone"}, {"put 3 4 'y'", "2,3,0 / 0,0,5 / 7,0,3 ; 0~2", "put 8 9 'y'"}, {"put 2 5 'y'", "2,3,0 / 0,0,5 / 7,0,3 ; 0~2", "put 7 10 'y'"}, {"put 2 5 'y'", "2,3,0 / 0,0,5 / 7,0,3", "put 10 10 'y'"},

		// Of a wrap: what stays, leaning inwards, too.
		{"wrap 2 2 5 5 1 (li )", "", "wrap 2 2 5 5 1 (li )"}, {"wrap 2 3 5 6 1 (li )", "", "wrap 2 3 5 6 1 (li )"}, {"wrap 2 2 5 5 1 (li )", "0,0,3", "wrap 5 5 8 8 1 (li )"}, {"wrap 2 2 5 5 1 (li )", "3,0,3", "wrap 2 2 8 8 1 (li )"}, {"wrap 2 3 5 6 1 (li )", "4,1,0", "wrap 2 3 4 5 1 (li )"}, {"wrap 2 3 5 6 1 (li )", "3,2,0", "wrap 2 3 3 4 1 (li )"},
		{"wrap 2 3 5 6 1 (li )", "3,0,2", "wrap 2 3 7 8 1 (li )"}, {"wrap 2 3 5 6 1 (li )", "5,0,2", "wrap 2 3 7 8 1 (li )"}, {"wrap 2 3 5 6 1 (li )", "2,0,2", "wrap 4 5 7 8 1 (li )"}, {"wrap 2 3 5 6 1 (li )", "6,0,2", "wrap 2 3 5 6 1 (li )"}, {"wrap 2 4 6 8 0", "3,0,2", "wrap 2 6 8 10 0"}, {"wrap 2 4 6 8 0", "7,0,2", "wrap 2 4 6 10 0"}, {"wrap 2 4 6 8 0", "2,2,0", "wrap 2 2 4 6 0"}, {"wrap 2 4 6 8 0", "6,2,1", "wrap 2 4 6 7 0"},
		// Gap below From: where something comes at both; To below End likewise.
		{"wrap 2 2 5 5 1 (li )", "2,0,3", "gone"}, {"wrap 2 2 5 5 1 (li )", "5,0,3", "gone"}, {"wrap 2 2 5 6 1 (li )", "5,0,3", "wrap 2 2 8 9 1 (li )"}, {"wrap 2 3 5 5 1 (li )", "2,0,3", "wrap 5 6 8 8 1 (li )"}, {"wrap 2 2 5 5 1 (li )", "2,3,1", "wrap 2 2 3 3 1 (li )"}, {"wrap 2 3 5 6 1 (li )", "1,3,2", "gone"}, {"wrap 2 3 5 6 1 (li )", "4,3,2", "gone"},
		{"wrap 2 3 5 6 1 (li )", "1,3,0", "wrap 1 1 2 3 1 (li )"}, {"wrap 2 3 5 6 1 (li )", "4,3,0", "wrap 2 3 4 4 1 (li )"}, {"wrap 2 2 2 2 1 (li )", "2,0,3", "gone"}, {"wrap 2 2 2 2 1 (li )", "2,2,0", "wrap 2 2 2 2 1 (li )"}, {"wrap 2 2 2 2 1 (li )", "0,0,2", "wrap 4 4 4 4 1 (li )"},
		// End below Gap: no map alone does it, what is brought back elsewhere may.
		{"wrap 2 4 6 8 0", "3,2,0 / 0,0,9 / 20,0,2 ; 0~2", "gone"}, {"wrap 2 3 5 6 0", "0,1,0 / 4,1,0 / 0,0,1 ; 1~2", "gone"}, {"wrap 2 3 5 6 0", "5,1,0 / 0,0,1 ; 0~1", "gone"}, {"wrap 1 1 5 6 0", "5,1,0 / 0,0,1 ; 0~1", "gone"}, {"wrap 2 3 5 6 0", "3,1,0 / 9,0,1 ; 0~1", "gone"},
		// Across at From and To.
		{"wrap 2 3 5 6 1 (li )", "1,6,0", "gone"}, {"wrap 2 3 5 6 1 (li )", "1,6,3", "gone"}, {"wrap 2 3 5 6 1 (li )", "1,2,0 5,2,0", "gone"}, {"wrap 2 3 5 6 1 (li )", "1,2,0 5,1,0", "wrap 1 1 3 3 1 (li )"}, {"wrap 2 3 5 6 1 (li )", "2,1,0 5,2,0", "wrap 2 2 4 4 1 (li )"}, {"wrap 2 3 5 6 1 (li )", "2,4,0", "wrap 2 2 2 2 1 (li )"}, {"wrap 2 3 5 6 1 (li )", "2,4,2", "wrap 2 2 4 4 1 (li )"}, {"wrap 2 3 5 6 1 (li )", "1,6,0 / 1,0,6 ; 0~1", "wrap 2 3 5 6 1 (li )"},

		// Of a mark and a bare: both lost, or nothing left where something was.
		{"mark 2 5 em", "", "mark 2 5 em"}, {"mark 2 5 em", "2,0,3", "mark 5 8 em"}, {"mark 2 5 em", "5,0,3", "mark 2 5 em"}, {"mark 2 5 em", "3,0,3", "mark 2 8 em"}, {"mark 2 5 em", "2,3,0", "gone"}, {"mark 2 5 em", "2,3,1", "gone"}, {"mark 2 5 em", "1,5,0", "gone"}, {"mark 2 5 em", "1,5,9", "gone"}, {"mark 2 5 em", "2,2,0", "mark 2 3 em"}, {"mark 2 5 em", "3,2,0", "mark 2 3 em"},
		{"mark 2 5 em", "0,3,0", "mark 0 2 em"}, {"mark 2 5 em", "4,3,0", "mark 2 4 em"}, {"mark 2 5 em", "1,2,0 4,2,0", "gone"}, {"mark 2 5 em", "1,2,1 4,2,1", "gone"}, {"mark 2 5 em", "2,1,0 4,1,0", "gone"}, {"mark 2 5 em", "2,1,0 5,1,0", "mark 2 4 em"}, {"mark 2 5 em", "1,1,0 4,1,0", "mark 1 3 em"}, {"mark 2 5 em", "2,1,0 4,1,0 / 2,0,3", "gone"}, {"mark 2 5 em", "2,1,5 4,1,5", "gone"},
		{"mark 2 5 em", "0,4,0 / 0,1,0", "gone"}, {"mark 2 5 em", "0,4,0 / 1,1,0", "mark 0 1 em"}, {"mark 2 4 em", "2,1,0 / 2,1,0", "gone"}, {"mark 2 4 em", "2,2,0 / 2,0,2 ; 0~1", "mark 2 4 em"}, {"mark 2 4 em", "2,2,0 / 2,0,2", "gone"}, {"mark 2 4 em", "3,1,0 / 2,1,0", "gone"}, {"mark 2 4 em", "2,2,0 / 8,0,2 ; 0~1", "mark 8 10 em"},
		// To at From, or below it, from the beginning on.
		{"mark 2 2 em", "", "mark 2 2 em"}, {"mark 2 2 em", "2,0,3", "mark 5 5 em"}, {"mark 2 2 em", "2,1,0", "mark 2 2 em"}, {"mark 2 2 em", "1,1,0", "mark 1 1 em"}, {"mark 2 2 em", "1,2,0", "gone"}, {"mark 2 2 em", "2,1,0 / 1,1,0", "gone"}, {"mark 2 2 em", "0,1,0 / 1,1,0", "mark 1 1 em"}, {"mark 2 2 em", "1,2,9", "gone"},
		// Not above From then, without anything lost: something came at both, or is brought back elsewhere.
		{"mark 2 5 em", "3,1,0 / 0,0,1 ; 0~1", "mark 3 5 em"}, {"mark 2 5 em", "5,1,0 / 0,0,1 ; 0~1", "gone"}, {"mark 2 5 em", "0,2,0 / 9,0,2 ; 0~1", "gone"}, {"mark 2 2 em", "0,2,0 / 9,0,2 ; 0~1", "mark 11 11 em"}, {"bare 2 5 em", "5,1,0 / 0,0,1 ; 0~1", "gone"},
		{"bare 2 5 em", "2,0,3", "bare 5 8 em"}, {"bare 2 5 em", "2,3,0", "gone"}, {"bare 2 5 em", "2,1,0 4,1,0", "gone"}, {"bare 2 5 em", "2,1,0 5,1,0", "bare 2 4 em"}, {"bare 2 2 em", "2,0,3", "bare 5 5 em"}, {"bare 2 2 em", "1,2,0", "gone"}, {"bare 2 5 code", "3,0,1", "bare 2 6 code"}, {"bare 2 5 em", "1,5,9", "gone"},

		// Of an attr: gone, if what stood behind it is.
		{"attr 2 level=2", "", "attr 2 level=2"}, {"attr 2 level=2", "2,0,3", "attr 5 level=2"}, {"attr 2 level=2", "2,1,0", "gone"}, {"attr 2 level=2", "2,1,9", "gone"}, {"attr 2 level=2", "1,1,0", "attr 1 level=2"}, {"attr 2 level=2", "1,1,4", "attr 5 level=2"}, {"attr 2 level=2", "1,2,0", "gone"}, {"attr 2 level=2", "3,2,0", "attr 2 level=2"}, {"attr 2 level=2", "3,0,2", "attr 2 level=2"},
		{"attr 2 level=2", "2,1,0 / 2,0,1 ; 0~1", "attr 2 level=2"}, {"attr 2 level=2", "2,1,0 / 2,0,1", "gone"}, {"attr 2 level=2", "1,1,0 / 1,1,0", "gone"}, {"attr 2 level=2", "0,2,0 / 7,0,2 ; 0~1", "attr 9 level=2"}, {"attr 0 level=2", "0,0,65536", "attr 65536 level=2"},

		// Of a swap: all its tokens must be there still, and nothing between.
		{"swap 2 5 'abc'", "", "swap 2 5 'abc'"}, {"swap 2 5 'abc'", "2,0,3", "swap 5 8 'abc'"}, {"swap 2 5 'abc'", "5,0,3", "swap 2 5 'abc'"}, {"swap 2 5 'abc'", "3,0,1", "gone"}, {"swap 2 5 'abc'", "3,1,0", "gone"}, {"swap 2 5 'abc'", "2,3,0", "gone"}, {"swap 2 5 'abc'", "0,2,0", "swap 0 3 'abc'"}, {"swap 2 5 'abc'", "0,3,0", "gone"}, {"swap 2 5 'abc'", "1,5,0", "gone"},
		{"swap 2 5 'abc'", "3,1,0 / 3,0,1 ; 0~1", "swap 2 5 'abc'"}, {"swap 2 5 'abc'", "3,1,1", "swap 2 5 'abc'"}, {"swap 2 5 'abc'", "2,3,3", "swap 2 5 'abc'"}, {"swap 2 5 'abc'", "1,5,5", "gone"}, {"swap 2 5 'abc'", "1,2,2 4,2,2", "gone"}, {"swap 2 5 'abc'", "1,5,0 / 1,0,5 ; 0~1", "swap 2 5 'abc'"}, {"swap 2 5 'abc'", "3,1,0 / 3,0,1", "swap 2 5 'abc'"},
		{"swap 2 2", "", "swap 2 2"}, {"swap 2 2", "2,0,3", "swap 5 5"}, {"swap 2 2", "1,1,0", "swap 1 1"}, {"swap 2 2", "2,1,0", "swap 2 2"}, {"swap 2 2", "1,2,0", "gone"}, {"swap 2 2", "1,2,2", "gone"}, {"swap 2 3 'a'", "2,1,1", "swap 2 3 'a'"},
	} {
		moved(t, x.step, x.chain, x.want)
	}
}

// Behind no maps, or maps of nothing, each step is itself (P11.4).
func TestMoveThroughNothing(t *testing.T) {
	for _, s := range right() {
		for _, c := range []api.Chain{{}, {Maps: [][]api.Range{}, Mirrors: []api.Mirror{}}, chain(""), chain(" / / "), chain(" / ; 0~1"), {Maps: make([][]api.Range, api.MaxChain)}} {
			moveIs(t, change(s), c, change(s), true)
		}
	}
}

// Through chains that may not be nothing goes.
func TestMoveThroughWhatIsNoChain(t *testing.T) {
	for _, s := range right() {
		for _, c := range []api.Chain{
			chain("0,0,0"), chain("0,-1,2"), chain("-1,0,1"), chain("2,0,1 2,0,1"), chain("99,0,1 2,0,1"), chain("1048577,0,1"), chain("0,0,1 / 0,0,0"), chain("; 0~0"), chain("; 0~1"), chain("2,3,0 / 2,0,2 ; 0~1"), chain("2,3,0 / 2,0,3 ; 1~0"),
			{Maps: make([][]api.Range, api.MaxChain+1)}, {Maps: [][]api.Range{make([]api.Range, api.MaxRanges+1)}}, {Mirrors: make([]api.Mirror, 1)},
		} {
			if maps.CheckChain(c) == ok {
				t.Errorf("%v may be", c)
			}
			moveIs(t, change(s), c, api.Step{}, false)
		}
	}
}

// A step that may not be goes as those do that may: of each Kind that is none as all that are no attr.
func TestMoveOfWhatMayNotBe(t *testing.T) {
	c := chain("2,2,5 / 9,0,1")
	for _, s := range slices.Concat(right(), []string{"put 5 2 'x'", "put -1 -3", "wrap 9 7 5 3 8", "mark 9 1 zz", "mark -1 99 em", "swap 9 1 /zz", "attr -1 =", "put 2000000 3000000", "attr 2000000 a=", "mark 2000000 1 em"}) {
		for _, kind := range []int{-1, 0, 1, 2, 3, 4, 5, 6, 7, 257, 1<<32 + 5, math.MaxInt, math.MinInt} {
			x := change(s)
			x.Kind = kind
			want, left := moveByWords(x, c)
			moveIs(t, x, c, want, left)
			want, left = moveByWords(x, api.Chain{})
			moveIs(t, x, api.Chain{}, want, left)
		}
	}
	x := api.Step{Kind: 0, From: 2, To: 5, Gap: 3, End: 4, Insert: 9, Mid: tokens("/zz"), Mark: api.Mark{Type: "zz"}, Name: "A", Value: "\n"}
	want := x
	want.From, want.To = 5, 8
	moveIs(t, x, chain("0,0,3"), want, true)
	for _, n := range []int{math.MaxInt, math.MinInt} {
		for kind := -1; kind <= 7; kind++ {
			step.Move(api.Step{Kind: kind, From: n, To: -n, Gap: n, End: n, Insert: n, Mid: tokens("'a'")}, c)
		}
	}
}

// All small puts, marks, swaps and attrs, and wraps of all orders, through all small maps.
func TestMoveOfAllSmallSteps(t *testing.T) {
	t.Parallel()
	var steps []api.Step
	for i := range 5 * 5 * 5 * 5 {
		from, gap, end, to := i%5, i/5%5, i/25%5, i/125
		if rising(from, gap, end, to) {
			steps = append(steps, api.Step{Kind: api.StepWrap, From: from, Gap: gap, End: end, To: to})
		}
		if gap == 0 && end == 0 && from <= to {
			for _, kind := range []int{api.StepPut, api.StepMark, api.StepBare} {
				steps = append(steps, api.Step{Kind: kind, From: from, To: to})
			}
			steps = append(steps, api.Step{Kind: api.StepSwap, From: from, To: to, Mid: times(tokens("'a'"), to-from)})
			steps = append(steps, api.Step{Kind: api.StepAttr, From: from, Name: "a"})
		}
	}
	for _, m := range smallMaps() {
		back := maps.Turn(m)
		for _, x := range steps {
			for _, c := range []api.Chain{{Maps: [][]api.Range{m}}, {Maps: [][]api.Range{m, back}}, {Maps: [][]api.Range{{{At: 1, New: 1}}, m}}, {Maps: [][]api.Range{m, {{At: 2, Old: 1}}}}} {
				want, left := moveByWords(x, c)
				moveIs(t, x, c, want, left)
			}
			c := api.Chain{Maps: [][]api.Range{m, back}, Mirrors: []api.Mirror{{First: 0, Second: 1}}}
			moveIs(t, x, c, x, true)
		}
	}
}

// smallMaps are all of two Ranges at most, of small numbers.
func smallMaps() [][]api.Range {
	var all [][]api.Range
	for i := range 5 * 4 * 3 {
		a := api.Range{At: i % 5, Old: i / 5 % 4, New: i / 20}
		for k := range 5 * 2 * 2 {
			b := api.Range{At: k % 5, Old: k / 5 % 2, New: k / 10}
			if m := []api.Range{a, b}; maps.Check(m) == ok {
				all = append(all, m)
			}
		}
		if m := []api.Range{a}; maps.Check(m) == ok {
			all = append(all, m)
		}
	}
	return all
}

// What a step comes to behind others is what it would have been there: bytes put into one text, away from one another.
func TestMoveOfWhatIsApart(t *testing.T) {
	s, n := pages(), tree("doc(p('abcdefgh'))")
	for at := 1; at <= 9; at++ {
		for with := 1; with <= 9; with++ {
			for _, mid := range []string{"", "'x'", "'xyz'"} {
				other := api.Step{Kind: api.StepPut, From: at, To: min(at+1, 9), Mid: tokens(mid)}
				own := api.Step{Kind: api.StepPut, From: with, To: with, Mid: tokens("'!'")}
				came, e := step.Do(s, n, other)
				then, left := step.Move(own, api.Chain{Maps: [][]api.Range{step.Map(other)}})
				if e != ok || !left {
					t.Fatalf("%s, %s: error %d", shownStep(other), shownStep(own), e)
				}
				both, e := step.Do(s, came, then)
				words := "abcdefgh"
				rest := words[min(at, 8):]
				if with <= at {
					words = words[:with-1] + "!" + words[with-1:at-1] + strings.Trim(mid, "'") + rest
				} else {
					words = words[:at-1] + strings.Trim(mid, "'") + words[min(at, 8):with-1] + "!" + words[with-1:]
				}
				if with == at && other.From == other.To {
					words = "abcdefgh" + strings.Trim(mid, "'") + "!"
				}
				if e != ok || both.Kids[0].Kids[0].Text != words {
					t.Errorf("%s, %s: %s, error %d, want %s", shownStep(other), shownStep(own), told(both), e, words)
				}
			}
		}
	}
}
