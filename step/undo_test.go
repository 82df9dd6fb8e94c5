package step_test

import (
	"math"
	"testing"

	"copydesk/api"
	"copydesk/maps"
	"copydesk/step"
)

// P11.2: Undo and Map

func TestUndo(t *testing.T) {
	for _, x := range []struct {
		s               api.Schema
		doc, step, want string
	}{
		// The example.
		{pages(), pair, "put 1 3", "put 1 1 'ab'"},
		{pages(), pair, "put 0 0", "put 0 0"}, {pages(), pair, "put 7 7", "put 7 7"}, {pages(), pair, "put 2 2 'xy'", "put 2 4"}, {pages(), pair, "put 2 3 'xy'", "put 2 4 'b'"}, {pages(), pair, "put 3 5", "put 3 3 ) (p"}, {pages(), pair, "put 0 7 /hr", "put 0 1 (p 'ab' ) (p 'c' )"},
		{pages(), "doc(h[level=3]('a'^em 'b'))", "put 0 4 /hr", "put 0 1 (h[level=3] 'a'^em 'b' )"},
		{pages(), pair, "wrap 0 0 7 7 1 (li )", "wrap 0 1 8 9 0"}, {pages(), "doc(li(p('ab') p('c')))", "wrap 0 1 8 9 0", "wrap 0 0 7 7 1 (li )"}, {pages(), pair, "wrap 0 1 3 4 1 (h[level=2] )", "wrap 0 1 3 4 1 (p )"},
		{pages(), "doc(p('abcdef'))", "wrap 1 3 4 7 1 'xyz'", "wrap 1 2 3 5 2 'abdef'"}, {pages(), "doc(p('abcdef'))", "wrap 1 2 5 5 3 'xyz'", "wrap 1 4 7 7 1 'a'"}, {pages(), "doc(p('abcdef'))", "wrap 1 1 5 6 0 'xyz'", "wrap 1 1 5 8 0 'e'"},
		{pages(), "doc(p('abcdef'))", "wrap 2 3 3 5 1 'xy'", "wrap 2 3 3 4 1 'bcd'"}, {pages(), "doc(p('abcdef'))", "wrap 2 2 2 2 2 'xy'", "wrap 2 4 4 4 0"}, {pages(), "doc(p('abcdef'))", "wrap 3 3 3 3 0", "wrap 3 3 3 3 0"},
		{pages(), pair, "mark 0 7 em", "swap 0 7 (p 'ab' ) (p 'c' )"}, {pages(), pair, "mark 2 2 em", "swap 2 2"}, {pages(), "doc(p('ab'^em 'c'^code 'd'))", "mark 1 5 code", "swap 1 5 'ab'^em 'c'^code 'd'"}, {pages(), "doc(p('ab'^em br^em))", "bare 1 4 em", "swap 1 4 'ab'^em /br^em"},
		{pages(), "doc(p('ab'))", "bare 1 3 em", "swap 1 3 'ab'"}, {pages(), "doc(p('ab'^code))", "swap 1 3 'a'^em 'b'", "swap 1 3 'ab'^code"}, {pages(), pair, "swap 3 5 ) (p", "swap 3 5 ) (p"}, {pages(), pair, "swap 0 0", "swap 0 0"},
		{pages(), "doc(hr h[level=1])", "attr 1 level=9", "attr 1 level=1"}, {pages(), "doc(hr h[level=])", "attr 1 level=9", "attr 1 level="}, {pages(), "doc(hr h[level=])", "attr 1 level=", "attr 1 level="},
		{books(), "top(sec(fig[alt=x,src=y](par)))", "attr 1 src=z", "attr 1 src=y"}, {books(), "top(sec(fig[alt=x,src=y](par)))", "attr 1 alt=z", "attr 1 alt=x"}, {books(), "top(sec(par('a'^a[href=x,title=])))", "mark 2 3 a[href=y,title=z]", "swap 2 3 'a'^a[href=x,title=]"},
		{books(), "top(sec^note[by=x])", "swap 0 1 (sec^note[by=y]", "swap 0 1 (sec^note[by=x]"}, {books(), "top(sec^note[by=x](hr^sub))", "put 0 3", "put 0 0 (sec^note[by=x] /hr^sub )"},
	} {
		undoIs(t, x.s, tree(x.doc), change(x.step), change(x.want))
	}
}

func TestMap(t *testing.T) {
	for _, x := range []struct {
		step string
		want []api.Range
	}{
		{"put 0 0", nil}, {"put 7 7", nil}, {"put 0 1", []api.Range{{At: 0, Old: 1}}}, {"put 2 5 'xy'", []api.Range{{At: 2, Old: 3, New: 2}}}, {"put 2 2 'xy'", []api.Range{{At: 2, New: 2}}}, {"put 65535 65536", []api.Range{{At: 65535, Old: 1}}},
		{"wrap 0 0 7 7 1 (li )", []api.Range{{At: 0, New: 1}, {At: 7, New: 1}}}, {"wrap 0 1 8 9 0", []api.Range{{At: 0, Old: 1}, {At: 8, Old: 1}}}, {"wrap 1 2 4 7 3 'uvwxy'", []api.Range{{At: 1, Old: 1, New: 3}, {At: 4, Old: 3, New: 2}}},
		// One of them left out, or both.
		{"wrap 1 1 4 4 0", nil}, {"wrap 1 1 4 4 1 'x'", []api.Range{{At: 1, New: 1}}}, {"wrap 1 1 4 4 0 'x'", []api.Range{{At: 4, New: 1}}}, {"wrap 1 2 4 4 0", []api.Range{{At: 1, Old: 1}}}, {"wrap 1 1 4 5 0", []api.Range{{At: 4, Old: 1}}},
		// Where nothing stays: one, together.
		{"wrap 1 2 2 4 1 'xyz'", []api.Range{{At: 1, Old: 3, New: 3}}}, {"wrap 1 1 1 4 1 'x'", []api.Range{{At: 1, Old: 3, New: 1}}}, {"wrap 1 4 4 4 0 'x'", []api.Range{{At: 1, Old: 3, New: 1}}}, {"wrap 4 4 4 4 1 'xy'", []api.Range{{At: 4, New: 2}}}, {"wrap 4 4 4 4 0", nil}, {"wrap 1 3 3 5 0", []api.Range{{At: 1, Old: 4}}},
		{"mark 0 7 em", nil}, {"bare 0 7 em", nil}, {"attr 3 level=2", nil}, {"swap 1 3 'ab'", nil}, {"mark 3 3 em", nil},
		// Whatever it is.
		{"put 5 2 'x'", []api.Range{{At: 5, Old: -3, New: 1}}}, {"put -4 -2 /zz", []api.Range{{At: -4, Old: 2, New: 1}}}, {"wrap 7 0 9 2 0 'x'", []api.Range{{At: 7, Old: -7}, {At: 9, Old: -7, New: 1}}}, {"wrap 0 1 2 3 2 'x'", []api.Range{{At: 0, Old: 1, New: 2}, {At: 2, Old: 1, New: -1}}},
		{"wrap 5 3 3 1 9 'x'", []api.Range{{At: 5, Old: -4, New: 1}}}, {"mark 5 2 zz", nil}, {"swap 5 2 'x'", nil}, {"attr -1 =", nil}, {"wrap 0 0 5 5 -1", []api.Range{{At: 0, New: -1}, {At: 5, New: 1}}},
	} {
		mapIs(t, change(x.step), x.want)
	}
}

// Fields that a kind does not have tell nothing of its map, nor does whether what it has may be.
func TestMapOfEachKind(t *testing.T) {
	x := api.Step{From: 1, To: 9, Gap: 3, End: 5, Insert: 2, Mid: make([]api.Token, 7), Mark: api.Mark{Type: "zz"}, Name: "A", Value: "\n"}
	for kind, want := range [][]api.Range{nil, {{At: 1, Old: 8, New: 7}}, {{At: 1, Old: 2, New: 2}, {At: 5, Old: 4, New: 5}}, nil, nil, nil, nil, nil} {
		x.Kind = kind
		mapIs(t, x, want)
	}
	for _, kind := range []int{-1, -2, 7, 8, 257, 1 << 32, 1<<32 + 1, math.MaxInt, math.MinInt} {
		x.Kind = kind
		mapIs(t, x, nil)
	}
	for kind := 1; kind <= 6; kind++ {
		for _, n := range []int{math.MaxInt, math.MinInt, 1 << 20, -1} {
			step.Map(api.Step{Kind: kind, From: n, To: -n, Gap: n / 2, End: n, Insert: n})
		}
	}
	many := api.Step{Kind: api.StepPut, Mid: make([]api.Token, 1<<17)}
	if m := step.Map(many); len(m) != 1 || m[0] != (api.Range{New: 1 << 17}) {
		t.Errorf("Map of many: %v", m)
	}
}

// The map of each step that may be is one that may be, of small numbers all of them.
func TestMapOfAllSmallSteps(t *testing.T) {
	s := small("doc: text*")
	for _, kind := range []int{api.StepPut, api.StepWrap, api.StepMark, api.StepSwap} {
		for i := range 4 * 4 * 4 * 4 * 3 * 3 {
			x := api.Step{Kind: kind, From: i % 4, Gap: i / 4 % 4, End: i / 16 % 4, To: i / 64 % 4, Insert: i / 256 % 3, Mid: tokens("'ab'")[:i/768%3]}
			if kind != api.StepWrap {
				x.Gap, x.End, x.Insert = 0, 0, 0
			}
			mapIs(t, x, mapByWords(x))
			if m := step.Map(x); checkByWords(s, x) == ok && maps.Check(m) != ok {
				t.Errorf("Map of %s: %v", shownStep(x), m)
			}
		}
	}
}
