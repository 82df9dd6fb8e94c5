package maps_test

import (
	"fmt"
	"math"
	"reflect"
	"slices"
	"strconv"
	"strings"
	"testing"

	"copydesk/api"
	"copydesk/maps"
)

const (
	ok   = api.OK
	arg  = api.ErrArg
	long = api.ErrLong
	most = api.MaxPlace
)

// leans are some of each side, the greatest and the least too.
var (
	aheads  = []int{-1, -2, -1 << 40, math.MinInt}
	behinds = []int{0, 1, 2, 1 << 40, math.MaxInt}
)

// number is what s tells; m is MaxPlace, and m+1, m-1 are those beside it.
func number(s string) int {
	if rest, found := strings.CutPrefix(s, "m"); found {
		n, _ := strconv.Atoi(rest)
		return most + n
	}
	n, err := strconv.Atoi(s)
	if err != nil {
		panic(s)
	}
	return n
}

// ranges is a map, told as "2,3,1 9,0,2".
func ranges(s string) []api.Range {
	var m []api.Range
	for _, one := range strings.Fields(s) {
		l := strings.Split(one, ",")
		m = append(m, api.Range{At: number(l[0]), Old: number(l[1]), New: number(l[2])})
	}
	return m
}

// chain is a chain, told as "2,3,0 / 2,0,3 ; 0~1": maps, and Mirrors.
func chain(s string) api.Chain {
	var c api.Chain
	of, mirrors, _ := strings.Cut(s, ";")
	if strings.TrimSpace(of) != "" {
		for _, m := range strings.Split(of, "/") {
			c.Maps = append(c.Maps, ranges(m))
		}
	}
	for _, one := range strings.Fields(mirrors) {
		first, second, _ := strings.Cut(one, "~")
		c.Mirrors = append(c.Mirrors, api.Mirror{First: number(first), Second: number(second)})
	}
	return c
}

// told is m as ranges reads it.
func told(m []api.Range) string {
	var l []string
	for _, r := range m {
		l = append(l, fmt.Sprintf("%d,%d,%d", r.At, r.Old, r.New))
	}
	return strings.Join(l, " ")
}

// toldChain is c as chain reads it.
func toldChain(c api.Chain) string {
	var l []string
	for _, m := range c.Maps {
		l = append(l, told(m))
	}
	s := strings.Join(l, " / ") + " ;"
	for _, p := range c.Mirrors {
		s += fmt.Sprintf(" %d~%d", p.First, p.Second)
	}
	return s
}

// moved is what is told as "3 abxl": a place, and whether what stood Ahead, Behind, Across went, and Lost.
func moved(s string) api.Moved {
	place, how, _ := strings.Cut(s, " ")
	for _, c := range how {
		if !strings.ContainsRune("abxl", c) {
			panic(s)
		}
	}
	return api.Moved{
		Place: number(place), Ahead: strings.Contains(how, "a"), Behind: strings.Contains(how, "b"),
		Across: strings.Contains(how, "x"), Lost: strings.Contains(how, "l"),
	}
}

// times is a map of so many Ranges, each of which makes two tokens of one.
func times(n int) []api.Range {
	var m []api.Range
	for i := range n {
		m = append(m, api.Range{At: 2 * i, Old: 1, New: 2})
	}
	return m
}

// many is a chain of so many maps, each of which puts a token at the beginning.
func many(n int) api.Chain {
	var c api.Chain
	for range n {
		c.Maps = append(c.Maps, ranges("0,0,1"))
	}
	return c
}

// alone is the chain of m.
func alone(m []api.Range) api.Chain {
	return api.Chain{Maps: [][]api.Range{m}}
}

// mirrored is the chain of m and m turned round, its mirror.
func mirrored(m []api.Range) api.Chain {
	return api.Chain{Maps: [][]api.Range{m, maps.Turn(m)}, Mirrors: []api.Mirror{{First: 0, Second: 1}}}
}

func checkIs(t *testing.T, m []api.Range, e api.Errno) {
	t.Helper()
	if got := maps.Check(m); got != e {
		t.Errorf("Check of %.300s is %d, want %d", told(m), got, e)
	}
}

func goIs(t *testing.T, m []api.Range, place, lean int, want api.Moved) {
	t.Helper()
	if got := maps.Go(m, place, lean); got != want {
		t.Errorf("Go of %.300s from %d leaning %d is %+v, want %+v", told(m), place, lean, got, want)
	}
}

func turnIs(t *testing.T, m, want []api.Range) {
	t.Helper()
	if got := maps.Turn(m); !slices.Equal(got, want) {
		t.Errorf("Turn of %.300s is %.300s, want %.300s", told(m), told(got), told(want))
	}
}

func deltaIs(t *testing.T, m []api.Range, want int) {
	t.Helper()
	if got := maps.Delta(m); got != want {
		t.Errorf("Delta of %.300s is %d, want %d", told(m), got, want)
	}
}

func touchesIs(t *testing.T, m []api.Range, from, to int, want bool) {
	t.Helper()
	if got := maps.Touches(m, from, to); got != want {
		t.Errorf("Touches of %.300s from %d to %d is %v, want %v", told(m), from, to, got, want)
	}
}

func chainIs(t *testing.T, c api.Chain, e api.Errno) {
	t.Helper()
	if got := maps.CheckChain(c); got != e {
		t.Errorf("CheckChain of %.300s is %d, want %d", toldChain(c), got, e)
	}
}

func throughIs(t *testing.T, c api.Chain, place, lean int, want api.Moved) {
	t.Helper()
	if got := maps.Through(c, place, lean); got != want {
		t.Errorf("Through of %.300s from %d leaning %d is %+v, want %+v", toldChain(c), place, lean, got, want)
	}
}

// The words, done slowly: the row that m changes is gone over token by token.

// side is where a place comes to leaning ahead, and behind, and the tokens beside it that went.
type side struct {
	ahead, behind         int
	wentAhead, wentBehind bool
}

// sides are those of all places of a row of so many tokens.
func sides(m []api.Range, tokens int) []side {
	var l []side
	came, i := 0, 0
	for p := 0; p <= tokens; p++ {
		if i == len(m) || m[i].At != p {
			l = append(l, side{ahead: came, behind: came})
			came++
			continue
		}
		r := m[i]
		for q := 0; q <= r.Old; q++ {
			l = append(l, side{came, came + r.New, q > 0, q < r.Old})
		}
		if r.Old > 0 {
			l[p].behind = l[p].ahead
			l[p+r.Old].ahead = l[p+r.Old].behind
		}
		p += r.Old
		came += r.New + 1
		i++
	}
	return l[:tokens+1]
}

// lengthOf is a row's that has all places of m, and some more.
func lengthOf(m []api.Range) int {
	n := 4
	for _, r := range m {
		n = max(n, r.At+r.Old+4)
	}
	return n
}

// goByWords is where place comes to, and how it went.
func goByWords(m []api.Range, place, lean int) api.Moved {
	s := sides(m, max(place, lengthOf(m)))[place]
	v := api.Moved{Place: s.behind, Ahead: s.wentAhead, Behind: s.wentBehind, Across: s.wentAhead && s.wentBehind, Lost: s.wentBehind}
	if lean < 0 {
		v.Place, v.Lost = s.ahead, s.wentAhead
	}
	return v
}

// throughByWords is where place comes to through the maps of c from the one with the number i on.
func throughByWords(c api.Chain, i, place, lean int) api.Moved {
	if i == len(c.Maps) {
		return api.Moved{Place: place}
	}
	for _, p := range c.Mirrors {
		if p.First != i {
			continue
		}
		for k, r := range c.Maps[i] {
			if r.Old > 0 && slices.Contains(placesOf(r), place) {
				return throughByWords(c, p.Second+1, begunBy(c.Maps[p.Second], k)+place-r.At, lean)
			}
		}
	}
	v := goByWords(c.Maps[i], place, lean)
	next := throughByWords(c, i+1, v.Place, lean)
	return api.Moved{
		Place: next.Place, Ahead: v.Ahead || next.Ahead, Behind: v.Behind || next.Behind,
		Across: v.Across || next.Across, Lost: v.Lost || next.Lost,
	}
}

// placesOf are those from the beginning of r to its end.
func placesOf(r api.Range) []int {
	var l []int
	for q := 0; q <= r.Old; q++ {
		l = append(l, r.At+q)
	}
	return l
}

// begunBy is where the Range of m with the number k begins in the row that comes.
func begunBy(m []api.Range, k int) int {
	return sides(m, lengthOf(m))[m[k].At].ahead
}

// turnByWords is m read from behind: at which place so many tokens have to go again for so many.
func turnByWords(m []api.Range) []api.Range {
	var turned []api.Range
	for k, r := range m {
		turned = append(turned, api.Range{At: begunBy(m, k), Old: r.New, New: r.Old})
	}
	return turned
}

// mayBeByWords tells whether m may be.
func mayBeByWords(m []api.Range) bool {
	least := 0
	for _, r := range m {
		if min(r.At, r.Old, r.New) < 0 || max(r.At, r.Old, r.New) > most || r.Old+r.New == 0 || r.At < least {
			return false
		}
		least = r.At + r.Old + 1
	}
	return true
}

// chainByWords tells whether the Mirrors of c are as told, its maps being ones that may be.
func chainByWords(c api.Chain) bool {
	var met []int
	for _, p := range c.Mirrors {
		if p.First >= p.Second || min(p.First, p.Second) < 0 || max(p.First, p.Second) >= len(c.Maps) {
			return false
		}
		met = append(met, p.First, p.Second)
		if !slices.Equal(column(c.Maps[p.First], func(r api.Range) int { return r.Old }), column(c.Maps[p.Second], func(r api.Range) int { return r.New })) {
			return false
		}
	}
	slices.Sort(met)
	return len(slices.Compact(slices.Clone(met))) == len(met)
}

// column is one number of each Range of m.
func column(m []api.Range, of func(api.Range) int) []int {
	l := []int{}
	for _, r := range m {
		l = append(l, of(r))
	}
	return l
}

// smalls are all maps that may be, of at most two Ranges, with At up to at, Old and New up to each.
func smalls(at, each int) [][]api.Range {
	var one []api.Range
	for a := range at + 1 {
		for old := range each + 1 {
			for came := range each + 1 {
				one = append(one, api.Range{At: a, Old: old, New: came})
			}
		}
	}
	all := [][]api.Range{nil}
	for _, a := range one {
		for _, m := range [][]api.Range{{a}} {
			if mayBeByWords(m) {
				all = append(all, m)
			}
		}
		for _, b := range one {
			if m := []api.Range{a, b}; mayBeByWords(m) {
				all = append(all, m)
			}
		}
	}
	return all
}

// same tells whether a and b are the same, nil lists being empty ones.
func same(a, b any) bool {
	return reflect.DeepEqual(a, b)
}
