package place_test

import (
	"strconv"
	"strings"
	"testing"

	"copydesk/api"
	"copydesk/node"
	"copydesk/place"
)

// P9.1

// told at each place of a document, one a line: the way; the node that is there; where the innermost one's Kids begin and end.
type along struct {
	schema api.Schema
	doc    string
	lines  string
}

func alongs() []along {
	return []along{
		{pages(), "doc(p('a' 'b'^em) hr)", `
			doc 0 0; p('a' 'b'^em); 0 5
			doc 0 0, p 1 0; 'a'; 1 3
			doc 0 0, p 1 1; 'b'^em; 1 3
			doc 0 0, p 1 2; ; 1 3
			doc 0 1; hr; 0 5
			doc 0 2; ; 0 5`},
		{pages(), "doc(p('abc' br^em 'de'^em) p)", `
			doc 0 0; p('abc' br^em 'de'^em); 0 10
			doc 0 0, p 1 0; 'abc'; 1 7
			doc 0 0, p 1 0 in; 'abc'; 1 7
			doc 0 0, p 1 0 in; 'abc'; 1 7
			doc 0 0, p 1 1; br^em; 1 7
			doc 0 0, p 1 2; 'de'^em; 1 7
			doc 0 0, p 1 2 in; 'de'^em; 1 7
			doc 0 0, p 1 3; ; 1 7
			doc 0 1; p; 0 10
			doc 0 1, p 9 0; ; 9 9
			doc 0 2; ; 0 10`},
		{pages(), "doc(h[level=3]('ab' 'cd'^em))", `
			doc 0 0; h[level=3]('ab' 'cd'^em); 0 6
			doc 0 0, h 1 0; 'ab'; 1 5
			doc 0 0, h 1 0 in; 'ab'; 1 5
			doc 0 0, h 1 1; 'cd'^em; 1 5
			doc 0 0, h 1 1 in; 'cd'^em; 1 5
			doc 0 0, h 1 2; ; 1 5
			doc 0 1; ; 0 6`},
		{pages(), "doc(li(p('a') li(p p('bc'))) hr)", `
			doc 0 0; li(p('a') li(p p('bc'))); 0 14
			doc 0 0, li 1 0; p('a'); 1 12
			doc 0 0, li 1 0, p 2 0; 'a'; 2 3
			doc 0 0, li 1 0, p 2 1; ; 2 3
			doc 0 0, li 1 1; li(p p('bc')); 1 12
			doc 0 0, li 1 1, li 5 0; p; 5 11
			doc 0 0, li 1 1, li 5 0, p 6 0; ; 6 6
			doc 0 0, li 1 1, li 5 1; p('bc'); 5 11
			doc 0 0, li 1 1, li 5 1, p 8 0; 'bc'; 8 10
			doc 0 0, li 1 1, li 5 1, p 8 0 in; 'bc'; 8 10
			doc 0 0, li 1 1, li 5 1, p 8 1; ; 8 10
			doc 0 0, li 1 1, li 5 2; ; 5 11
			doc 0 0, li 1 2; ; 1 12
			doc 0 1; hr; 0 14
			doc 0 2; ; 0 14`},
		{pages(), "doc(hr hr)", `
			doc 0 0; hr; 0 2
			doc 0 1; hr; 0 2
			doc 0 2; ; 0 2`},
		{books(), "top", `
			top 0 0; ; 0 0`},
		{books(), "top(sec^note[by=z])", `
			top 0 0; sec^note[by=z]; 0 2
			top 0 0, sec 1 0; ; 1 1
			top 0 1; ; 0 2`},
		{books(), "top(sec(par('a' foot(par('b')) 'c')))", `
			top 0 0; sec(par('a' foot(par('b')) 'c')); 0 11
			top 0 0, sec 1 0; par('a' foot(par('b')) 'c'); 1 10
			top 0 0, sec 1 0, par 2 0; 'a'; 2 9
			top 0 0, sec 1 0, par 2 1; foot(par('b')); 2 9
			top 0 0, sec 1 0, par 2 1, foot 4 0; par('b'); 4 7
			top 0 0, sec 1 0, par 2 1, foot 4 0, par 5 0; 'b'; 5 6
			top 0 0, sec 1 0, par 2 1, foot 4 0, par 5 1; ; 5 6
			top 0 0, sec 1 0, par 2 1, foot 4 1; ; 4 7
			top 0 0, sec 1 0, par 2 2; 'c'; 2 9
			top 0 0, sec 1 0, par 2 3; ; 2 9
			top 0 0, sec 1 1; ; 1 10
			top 0 1; ; 0 11`},
		{books(), "top(sec(hr^note[by=x]) sec(fig[alt=,src=y](par)))", `
			top 0 0; sec(hr^note[by=x]); 0 9
			top 0 0, sec 1 0; hr^note[by=x]; 1 2
			top 0 0, sec 1 1; ; 1 2
			top 0 1; sec(fig[alt=,src=y](par)); 0 9
			top 0 1, sec 4 0; fig[alt=,src=y](par); 4 8
			top 0 1, sec 4 0, fig 5 0; par; 5 7
			top 0 1, sec 4 0, fig 5 0, par 6 0; ; 6 6
			top 0 1, sec 4 0, fig 5 1; ; 5 7
			top 0 1, sec 4 1; ; 4 8
			top 0 2; ; 0 9`},
		{letters(), "doc('ab' note('c' note('d'^em)) 'e'^em)", `
			doc 0 0; 'ab'; 0 9
			doc 0 0 in; 'ab'; 0 9
			doc 0 1; note('c' note('d'^em)); 0 9
			doc 0 1, note 3 0; 'c'; 3 7
			doc 0 1, note 3 1; note('d'^em); 3 7
			doc 0 1, note 3 1, note 5 0; 'd'^em; 5 6
			doc 0 1, note 3 1, note 5 1; ; 5 6
			doc 0 1, note 3 2; ; 3 7
			doc 0 2; 'e'^em; 0 9
			doc 0 3; ; 0 9`},
		{small("doc:text*"), "doc('abc')", `
			doc 0 0; 'abc'; 0 3
			doc 0 0 in; 'abc'; 0 3
			doc 0 0 in; 'abc'; 0 3
			doc 0 1; ; 0 3`},
		{small("top:", "p:text*"), "top", `
			top 0 0; ; 0 0`},
		{small("z:   ", "p:text*"), "z", `
			z 0 0; ; 0 0`},
	}
}

// way are the Spots that s tells, as shownWay does.
func way(s string) []api.Spot {
	var l []api.Spot
	for _, one := range strings.Split(s, ", ") {
		f := strings.Fields(one)
		l = append(l, api.Spot{Type: f[0], Start: number(f[1]), Index: number(f[2]), Inside: len(f) == 4})
	}
	return l
}

func number(s string) int {
	n, err := strconv.Atoi(s)
	if err != nil {
		panic(s)
	}
	return n
}

func TestAlong(t *testing.T) {
	for _, x := range alongs() {
		n := tree(x.doc)
		lines := strings.Split(strings.TrimSpace(x.lines), "\n")
		if len(lines) != length(may(t, x.schema), n)+1 {
			t.Errorf("%s: %d lines", x.doc, len(lines))
		}
		for at, line := range lines {
			f := strings.Split(strings.TrimSpace(line), "; ")
			findIs(t, x.schema, n, at, way(f[0]), ok)
			if f[1] == "" {
				atIs(t, x.schema, n, at, api.Node{}, false)
			} else {
				atIs(t, x.schema, n, at, tree(f[1]), true)
			}
			from, to, _ := strings.Cut(f[2], " ")
			endsIs(t, x.schema, n, at, [2]int{number(from), number(to)}, ok)
		}
		for _, at := range []int{-1, len(lines)} {
			wrongAt(t, x.schema, n, at, none)
			wrong(t, x.schema, n, min(at, 0), max(at, 0), none)
		}
		asTold(t, x.schema, n)
	}
}

const list3 = "doc(li(p('a') li(p p('bc'))) hr)"

func TestShared(t *testing.T) {
	for _, x := range []struct {
		s       api.Schema
		doc     string
		a, b, d int
	}{
		// A place and itself.
		{pages(), list3, 0, 0, 0}, {pages(), list3, 14, 14, 0}, {pages(), list3, 13, 13, 0}, {pages(), list3, 1, 1, 1}, {pages(), list3, 2, 2, 2}, {pages(), list3, 4, 4, 1},
		{pages(), list3, 6, 6, 3}, {pages(), list3, 9, 9, 3}, {pages(), list3, 11, 11, 2}, {pages(), list3, 12, 12, 1},
		// Two within one node.
		{pages(), list3, 0, 14, 0}, {pages(), list3, 0, 13, 0}, {pages(), list3, 1, 12, 1}, {pages(), list3, 1, 4, 1}, {pages(), list3, 2, 3, 2}, {pages(), list3, 5, 11, 2}, {pages(), list3, 8, 10, 3},
		// Two in nodes side by side, or in one of them and beside it.
		{pages(), list3, 2, 8, 1}, {pages(), list3, 3, 5, 1}, {pages(), list3, 6, 8, 2}, {pages(), list3, 6, 7, 2}, {pages(), list3, 7, 8, 2}, {pages(), list3, 10, 12, 1}, {pages(), list3, 12, 13, 0},
		{pages(), list3, 0, 9, 0}, {pages(), list3, 9, 14, 0}, {pages(), "doc(p p)", 1, 3, 0}, {pages(), "doc(p('ab') p('ab'))", 2, 6, 0}, {pages(), "doc(li(p) li(p))", 2, 6, 0},
		{books(), "top(sec(par('a' foot(par('b')) 'c')))", 5, 6, 4}, {books(), "top(sec(par('a' foot(par('b')) 'c')))", 4, 5, 3}, {books(), "top(sec(par('a' foot(par('b')) 'c')))", 6, 8, 2},
		{letters(), "doc('ab' note('c' note('d'^em)))", 0, 2, 0}, {letters(), "doc('ab' note('c' note('d'^em)))", 3, 6, 1}, {letters(), "doc('ab' note('c' note('d'^em)))", 5, 6, 2},
		{small("top:", "p:text*"), "top", 0, 0, 0},
	} {
		// Either may be ahead of the other one.
		sharedIs(t, may(t, x.s), tree(x.doc), x.a, x.b, x.d, ok)
		sharedIs(t, x.s, tree(x.doc), x.b, x.a, x.d, ok)
	}
}

// As deep, and as great, as a document may be.
func TestGreatest(t *testing.T) {
	s, n := pages(), doc(nested(13))
	all := stretches(s, n)
	for at := range length(s, n) + 1 {
		oneAsTold(t, s, n, all, at)
		pairAsTold(t, s, n, all, holding(s), at, length(s, n)-at)
		pairAsTold(t, s, n, all, holding(s), at, at)
	}
	// Ahead of each li but the first there is an empty p, and its own token.
	middle := 13*3 + 2
	if l, e := place.Find(s, n, middle); e != ok || len(l) != 15 || l[14] != (api.Spot{Type: "p", Start: middle - 1, Inside: true}) {
		t.Errorf("Find within the innermost text: %s, error %d", shownWay(l), e)
	}
	sharedIs(t, s, n, middle, middle, 14, ok)
	blocksIs(t, s, n, middle, middle, api.Blocks{From: middle - 2, To: middle + 2, Depth: 13}, ok)

	const most = 1<<16 - 2
	words := strings.Repeat("abcd", most/4)[:most-2]
	n = doc(api.Node{Type: "p", Kids: []api.Node{{Type: "text", Text: words}}})
	findIs(t, s, n, most-2, way("doc 0 0, p 1 0 in"), ok)
	findIs(t, s, n, most-1, way("doc 0 0, p 1 1"), ok)
	findIs(t, s, n, most, way("doc 0 1"), ok)
	atIs(t, s, n, most-2, n.Kids[0].Kids[0], true)
	endsIs(t, s, n, 9, [2]int{1, most - 1}, ok)
	wordsIs(t, s, n, 0, most, words, ok)
	wordsIs(t, s, n, 9, most-9, words[8:most-10], ok)
	betweenIs(t, s, n, 9, 9, seen("p 0, text 1"), ok)
	blocksIs(t, s, n, 9, 9, api.Blocks{To: most}, ok)
	wrongAt(t, s, n, most+1, none)
	wrong(t, s, n, 0, most+1, none)

	n = doc()
	for range most {
		n.Kids = append(n.Kids, api.Node{Type: "hr"})
	}
	findIs(t, s, n, most-1, way("doc 0 "+strconv.Itoa(most-1)), ok)
	atIs(t, s, n, most-1, tree("hr"), true)
	if l, e := place.Between(s, n, 1, most-1); e != ok || len(l) != most-2 || l[0].Place != 1 || l[most-3].Place != most-2 {
		t.Errorf("Between of many: %s, error %d", shownSeen(l), e)
	}
	wrongAt(t, s, doc(append(n.Kids, tree("hr"))...), 0, long)
}

// P9.3

func TestWayHasItsDepth(t *testing.T) {
	for _, x := range alongs() {
		n := tree(x.doc)
		l := tokensOf(t, x.schema, n)
		for at := range len(l) + 1 {
			wayHasItsDepth(t, x.schema, n, l, at)
		}
		wordsIs(t, x.schema, n, 0, len(l), node.Words(n), ok)
	}
}
