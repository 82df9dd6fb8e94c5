package rebase_test

import (
	"math"
	"strconv"
	"strings"
	"testing"

	"copydesk/api"
	"copydesk/maps"
)

// P13.1: Chain

// again is what s tells: which of one's own was done anew, and as what; " ; " between.
func again(s string) []api.Anew {
	var l []api.Anew
	for _, one := range strings.Split(s, " ; ") {
		if one == "" {
			continue
		}
		number, as, _ := strings.Cut(one, " ")
		own, e := strconv.Atoi(number)
		if e != nil {
			panic(s)
		}
		l = append(l, api.Anew{Own: own, Step: change(as)})
	}
	return l
}

// mapsOf are those that s tells, each as its Ranges, "/" between.
func mapsOf(s string) [][]api.Range {
	if s == "" {
		return nil
	}
	var l [][]api.Range
	for _, one := range strings.Split(s, "/") {
		n, m := numbers(one), []api.Range(nil)
		for ; len(n) > 0; n = n[3:] {
			m = append(m, api.Range{At: n[0], Old: n[1], New: n[2]})
		}
		l = append(l, m)
	}
	return l
}

func TestChain(t *testing.T) {
	const own, others = "put 3 3 'yyy' ; put 4 5 'z' ; put 1 3 ; put 9 9", "put 1 1 'x'"
	const around = "wrap 0 0 7 7 1 (li ) ; put 1 1"
	for _, x := range []struct {
		own, others, anew string
		i                 int
		maps, mirrors     string
	}{
		{own, others, "", 0, "1 0 1", ""}, {own, "", "", 0, "", ""}, {own, "put 1 1 'x' ; mark 1 2 em ; put 3 5", "", 0, "1 0 1//3 2 0", ""},
		// What undid those ahead, the last one first; the others'; what was done anew.
		{own, others, "", 1, "3 3 0/1 0 1", ""}, {own, others, "", 2, "4 1 1/3 3 0/1 0 1", ""}, {own, others, "", 3, "1 0 2/4 1 1/3 3 0/1 0 1", ""}, {own, "", "", 3, "1 0 2/4 1 1/3 3 0", ""},
		{own, others, "0 put 4 4 'yyy'", 1, "3 3 0/1 0 1/4 0 3", "0 2"}, {own, "", "0 put 3 3 'yyy'", 1, "3 3 0/3 0 3", "0 1"},
		{own, others, "0 put 4 4 'yyy' ; 1 put 5 6 'z'", 2, "4 1 1/3 3 0/1 0 1/4 0 3/5 1 1", "1 3 0 4"}, {own, others, "0 put 4 4 'yyy'", 2, "4 1 1/3 3 0/1 0 1/4 0 3", "1 3"}, {own, others, "1 put 5 6 'z'", 2, "4 1 1/3 3 0/1 0 1/5 1 1", "0 3"},
		{own, others, "0 put 4 4 'yyy' ; 1 put 5 6 'z' ; 2 put 2 4", 3, "1 0 2/4 1 1/3 3 0/1 0 1/4 0 3/5 1 1/2 2 0", "2 4 1 5 0 6"}, {own, others, "0 put 4 4 'yyy' ; 2 put 2 4", 3, "1 0 2/4 1 1/3 3 0/1 0 1/4 0 3/2 2 0", "2 4 0 5"},
		// A pair is one by what was put alone, whatever was taken away, and wherever it stands.
		{own, others, "0 put 1 9 'abc'", 1, "3 3 0/1 0 1/1 8 3", "0 2"}, {own, others, "2 put 9 9", 3, "1 0 2/4 1 1/3 3 0/1 0 1/", ""}, {own, others, "2 put 0 1", 3, "1 0 2/4 1 1/3 3 0/1 0 1/0 1 0", "0 4"},
		{own, others, "0 put 4 4 'yy'", 1, "3 3 0/1 0 1/4 0 2", ""}, {own, others, "0 put 4 4 'yyyy' ; 1 put 4 4 'z'", 2, "4 1 1/3 3 0/1 0 1/4 0 4/4 0 1", "0 4"}, {own, others, "0 mark 4 7 em", 1, "3 3 0/1 0 1/", ""},
		// Maps of nothing are a pair.
		{"mark 1 2 em ; put 1 1", others, "0 mark 2 3 em", 1, "/1 0 1/", "0 2"}, {"attr 1 a=b ; put 1 1 ; swap 1 1 ; bare 0 9 em ; put 3 3", "", "0 attr 9 a=b ; 1 put 2 2 ; 2 put 2 2 ; 3 swap 0 1 'a'", 4, "///////", "3 4 2 5 1 6 0 7"}, {"mark 1 2 em ; put 1 1", others, "0 put 2 2 'x'", 1, "/1 0 1/2 0 1", ""}, {"mark 1 2 em ; put 1 1", others, "0 put 2 3", 1, "/1 0 1/2 1 0", ""},
		// Of two Ranges both must be.
		{around, others, "0 wrap 0 0 8 8 1 (li )", 1, "0 1 0 8 1 0/1 0 1/0 0 1 8 0 1", "0 2"}, {around, others, "0 wrap 1 3 4 9 1 (li )", 1, "0 1 0 8 1 0/1 0 1/1 2 1 4 5 1", "0 2"}, {around, others, "0 wrap 0 0 8 8 1 (li ) )", 1, "0 1 0 8 1 0/1 0 1/0 0 1 8 0 2", ""}, {around, others, "0 wrap 0 0 8 8 2 (li (p )", 1, "0 1 0 8 1 0/1 0 1/0 0 2 8 0 1", ""},
		{around, others, "0 wrap 4 4 4 4 1 (li )", 1, "0 1 0 8 1 0/1 0 1/4 0 2", ""}, {around, others, "0 wrap 0 0 8 8 1 (li", 1, "0 1 0 8 1 0/1 0 1/0 0 1", ""}, {around, others, "0 put 3 4 'a'", 1, "0 1 0 8 1 0/1 0 1/3 1 1", ""}, {"wrap 0 1 8 9 0 ; put 1 1", "", "0 wrap 0 1 8 8 0", 1, "0 0 1 7 0 1/0 1 0", ""},
		// Whatever they are: what may not be has no map turned round.
		{"put 5 2 'x' ; put 1 1", "put 7 3 'ab'", "0 put 5 2 'x'", 1, "/7 -4 2/5 -3 1", ""}, {"put 1 1 'x' ; put 1 1", "", "0 put 9 1 'x'", 1, "1 1 0/9 -8 1", "0 1"}, {"put 5 2 'x' ; put 1 1", "", "0 mark 5 2 em", 1, "/", "0 1"}, {"wrap 5 4 3 2 9 'x' ; put 1 1", "", "0 put 1 1", 1, "/", "0 1"},
	} {
		want := api.Chain{Maps: mapsOf(x.maps)}
		for n := numbers(x.mirrors); len(n) > 0; n = n[2:] {
			want.Mirrors = append(want.Mirrors, api.Mirror{First: n[0], Second: n[1]})
		}
		chainIs(t, many(x.own), many(x.others), again(x.anew), x.i, want)
	}
}

// mapsOf can't tell one map of nothing by an empty text.
func TestChainOfOneMapOfNothing(t *testing.T) {
	still := api.Chain{Maps: [][]api.Range{nil}}
	chainIs(t, many("put 1 1"), many("mark 0 1 em"), nil, 0, still)
	chainIs(t, many("put 1 1 ; put 1 2"), nil, nil, 1, still)
	chainIs(t, []api.Step{{Kind: 9, To: 3, Mid: tokens("'x'")}, {}}, nil, nil, 1, still)
	chainIs(t, []api.Step{{}}, []api.Step{{Kind: -1, To: 3}}, nil, 0, still)
	chainIs(t, []api.Step{{}, {}}, nil, []api.Anew{{}}, 1, api.Chain{Maps: [][]api.Range{nil, nil}, Mirrors: []api.Mirror{{First: 0, Second: 1}}})
}

func TestNoChain(t *testing.T) {
	own, others := many("put 3 3 'yyy' ; put 4 5 'z' ; put 1 3"), many("put 1 1 'x'")
	for _, i := range []int{-1, -2, 3, 4, 1000, math.MinInt, math.MaxInt} {
		chainIs(t, own, others, nil, i, api.Chain{})
		chainIs(t, own, others, again("0 put 1 1"), i, api.Chain{})
		chainIs(t, nil, others, nil, i, api.Chain{})
	}
	chainIs(t, nil, others, nil, 0, api.Chain{})
	chainIs(t, own[:2], others, nil, 2, api.Chain{})
	for _, x := range []struct {
		i   int
		own []int
	}{
		{0, numbers("0")}, {1, numbers("1")}, {1, numbers("0 0")}, {1, numbers("0 1")}, {1, numbers("-1")}, {1, numbers("-1 0")}, {2, numbers("2")}, {2, numbers("0 2")}, {2, numbers("1 0")}, {2, numbers("1 1")}, {2, numbers("0 1 1")}, {2, numbers("0 0 1")}, {2, numbers("0 1 2")}, {2, numbers("0 1 0")},
		{2, []int{math.MinInt}}, {2, []int{math.MaxInt}}, {2, []int{0, math.MaxInt}}, {2, []int{math.MaxInt, 0}}, {2, []int{math.MinInt, 0, 1}},
	} {
		var anew []api.Anew
		for _, k := range x.own {
			anew = append(anew, api.Anew{Own: k, Step: change("put 1 1 'x'")})
		}
		chainIs(t, own, others, anew, x.i, api.Chain{})
	}
}

// What stands from the step itself on is not told in its chain, nor is there a bound to what is.
func TestChainOfVeryMany(t *testing.T) {
	own, others := repeated("put 1 1 'x'", 400), repeated("put 2 2 'y'", 300)
	var anew []api.Anew
	var want api.Chain
	want.Maps = append(want.Maps, mapsOfOne(api.Range{At: 1, Old: 1}, 399)...)
	want.Maps = append(want.Maps, mapsOfOne(api.Range{At: 2, New: 1}, 300)...)
	for k := 0; k < 399; k += 2 {
		anew = append(anew, api.Anew{Own: k, Step: change("put 5 6 'x'")})
		want.Mirrors = append(want.Mirrors, api.Mirror{First: 398 - k, Second: 699 + k/2})
	}
	want.Maps = append(want.Maps, mapsOfOne(api.Range{At: 5, Old: 1, New: 1}, 200)...)
	chainIs(t, own, others, anew, 399, want)
	if e := maps.CheckChain(want); e != long {
		t.Errorf("a chain of %d maps: error %d", len(want.Maps), e)
	}
	for _, behind := range []api.Step{{}, change("put 3 9 'abc'"), {Kind: -7, From: -1}, change("wrap 9 0 1 2 1 'x'")} {
		own[399] = behind
		chainIs(t, own, others, anew, 399, want)
	}
}

// mapsOfOne is so many maps of that Range alone.
func mapsOfOne(r api.Range, n int) [][]api.Range {
	var l [][]api.Range
	for range n {
		l = append(l, []api.Range{r})
	}
	return l
}

// All of at most three of one's own, the others' one, what was done anew of two at most, in any order, and each number.
func TestChainOfAllSmall(t *testing.T) {
	t.Parallel()
	steps := append(many("put 1 1 'x' ; put 2 3 'ab' ; put 1 3 ; mark 1 2 em ; wrap 0 0 3 3 1 'ab'"), api.Step{Kind: 7}, change("put 3 1 'x'"))
	var anews [][]api.Anew
	for i := range 36 {
		one, other := api.Anew{Own: i%6 - 1, Step: steps[i%7]}, api.Anew{Own: i/6 - 1, Step: steps[i%5]}
		anews = append(anews, []api.Anew{one}, []api.Anew{one, other}, []api.Anew{other, one})
	}
	found, paired := 0, 0
	for i := range 7 * 7 * 7 * 4 {
		own := []api.Step{steps[i%7], steps[i/7%7], steps[i/49%7]}[:i/343]
		for k, anew := range append(anews, nil) {
			others := steps[k%7:][:k%2]
			for i := -1; i <= 4; i++ {
				want := chainByWords(own, others, anew, i, turned(own))
				chainIs(t, own, others, anew, i, want)
				found += min(len(want.Maps), 1)
				paired += len(want.Mirrors)
			}
		}
	}
	if found < 5000 || paired < 1000 {
		t.Errorf("%d chains, %d pairs", found, paired)
	}
}
