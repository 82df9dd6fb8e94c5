package place_test

import (
	"strings"
	"testing"

	"copydesk/api"
	"copydesk/node"
	"copydesk/place"
	"copydesk/row"
)

// P9.2

// seen are the nodes that s tells, as shownSeen does.
func seen(s string) []api.Seen {
	var l []api.Seen
	for _, one := range strings.Split(s, ", ") {
		if typ, at, found := strings.Cut(one, " "); found {
			l = append(l, api.Seen{Type: typ, Place: number(at)})
		}
	}
	return l
}

const foot = "top(sec(par('a' foot(par('b')) 'c')))"

const notes = "doc('ab' note('c' note('d'^em)) 'e'^em)"

func TestBetween(t *testing.T) {
	for _, x := range []struct {
		s        api.Schema
		doc      string
		from, to int
		want     string
	}{
		// The whole; nothing at its ends.
		{pages(), list3, 0, 14, "li 0, p 1, text 2, li 4, p 5, p 7, text 8, hr 13"},
		{pages(), list3, 0, 0, ""},
		{pages(), list3, 14, 14, ""},
		// Nothing lies between, and nodes hold it.
		{pages(), list3, 4, 4, "li 0"},
		{pages(), list3, 2, 2, "li 0, p 1"},
		{pages(), list3, 6, 6, "li 0, li 4, p 5"},
		{pages(), list3, 9, 9, "li 0, li 4, p 7, text 8"},
		{pages(), list3, 13, 13, ""},
		// A part of a text, and the whole of one.
		{pages(), list3, 9, 10, "li 0, li 4, p 7, text 8"},
		{pages(), list3, 8, 9, "li 0, li 4, p 7, text 8"},
		{pages(), list3, 2, 3, "li 0, p 1, text 2"},
		// Nodes that only begin there.
		{pages(), list3, 0, 1, "li 0"},
		{pages(), list3, 0, 2, "li 0, p 1"},
		{pages(), list3, 0, 9, "li 0, p 1, text 2, li 4, p 5, p 7, text 8"},
		{pages(), list3, 4, 6, "li 0, li 4, p 5"},
		// Nodes that only end there.
		{pages(), list3, 12, 13, "li 0"},
		{pages(), list3, 11, 13, "li 0, li 4"},
		{pages(), list3, 10, 13, "li 0, li 4, p 7"},
		{pages(), list3, 9, 14, "li 0, li 4, p 7, text 8, hr 13"},
		// Nodes of both kinds; a leaf.
		{pages(), list3, 3, 5, "li 0, p 1, li 4"},
		{pages(), list3, 6, 8, "li 0, li 4, p 5, p 7"},
		{pages(), list3, 13, 14, "hr 13"},
		{pages(), list3, 12, 14, "li 0, hr 13"},
		{books(), foot, 0, 11, "sec 0, par 1, text 2, foot 3, par 4, text 5, text 8"},
		{books(), foot, 3, 8, "sec 0, par 1, foot 3, par 4, text 5"},
		{books(), foot, 6, 9, "sec 0, par 1, foot 3, par 4, text 8"},
		{books(), foot, 7, 8, "sec 0, par 1, foot 3"},
		{books(), "top", 0, 0, ""},
		{letters(), notes, 0, 9, "text 0, note 2, text 3, note 4, text 5, text 8"},
		{letters(), notes, 1, 1, "text 0"},
		{letters(), notes, 2, 2, ""},
		{letters(), notes, 2, 8, "note 2, text 3, note 4, text 5"},
		{small("top:", "p:text*"), "top", 0, 0, ""},
		// Texts of other Marks side by side.
		{pages(), "doc(p('ab' 'cd'^em 'ef'))", 3, 3, "p 0"},
		{pages(), "doc(p('ab' 'cd'^em 'ef'))", 3, 5, "p 0, text 3"},
		{pages(), "doc(p('ab' 'cd'^em 'ef'))", 2, 6, "p 0, text 1, text 3, text 5"},
	} {
		betweenIs(t, may(t, x.s), tree(x.doc), x.from, x.to, seen(x.want), ok)
	}
}

func TestWords(t *testing.T) {
	for _, x := range []struct {
		s        api.Schema
		doc      string
		from, to int
		want     string
	}{
		{pages(), list3, 0, 14, "abc"},
		{pages(), list3, 0, 0, ""}, {pages(), list3, 14, 14, ""}, {pages(), list3, 9, 9, ""}, {pages(), list3, 8, 8, ""},
		{pages(), list3, 0, 2, ""}, {pages(), list3, 3, 8, ""}, {pages(), list3, 10, 14, ""},
		{pages(), list3, 2, 3, "a"}, {pages(), list3, 2, 9, "ab"}, {pages(), list3, 3, 9, "b"}, {pages(), list3, 9, 10, "c"}, {pages(), list3, 9, 14, "c"}, {pages(), list3, 0, 9, "ab"}, {pages(), list3, 8, 10, "bc"},
		{pages(), "doc(p('ab' 'cd'^em br 'ef') p('gh'))", 0, 13, "abcdefgh"},
		{pages(), "doc(p('ab' 'cd'^em br 'ef') p('gh'))", 2, 4, "bc"},
		{pages(), "doc(p('ab' 'cd'^em br 'ef') p('gh'))", 4, 7, "de"},
		{pages(), "doc(p('ab' 'cd'^em br 'ef') p('gh'))", 5, 6, ""},
		{pages(), "doc(p('ab' 'cd'^em br 'ef') p('gh'))", 7, 11, "fg"},
		{pages(), "doc(p(' ~') hr)", 0, 5, " ~"},
		{books(), foot, 0, 11, "abc"}, {books(), foot, 3, 8, "b"}, {books(), foot, 2, 6, "ab"}, {books(), foot, 6, 9, "c"},
		{books(), "top", 0, 0, ""},
		{letters(), notes, 0, 9, "abcde"}, {letters(), notes, 1, 6, "bcd"}, {letters(), notes, 1, 1, ""}, {letters(), notes, 0, 1, "a"}, {letters(), notes, 6, 9, "e"},
		{small("top:", "p:text*"), "top", 0, 0, ""},
	} {
		wordsIs(t, may(t, x.s), tree(x.doc), x.from, x.to, x.want, ok)
	}
}

func TestBlocks(t *testing.T) {
	for _, x := range []struct {
		s               api.Schema
		doc             string
		from, to        int
		first, last, at int
	}{
		// What both share holds inline: what is around it tells.
		{pages(), list3, 2, 3, 1, 4, 1},
		{pages(), list3, 8, 10, 7, 11, 2},
		{pages(), list3, 9, 9, 7, 11, 2},
		{pages(), list3, 6, 6, 5, 7, 2},
		{pages(), list3, 2, 2, 1, 4, 1},
		{pages(), "doc(p)", 1, 1, 0, 2, 0},
		{pages(), "doc(hr h[level=1]('ab') hr)", 2, 3, 1, 5, 0},
		// What both share holds others.
		{pages(), list3, 2, 9, 1, 12, 1},
		{pages(), list3, 6, 9, 5, 11, 2},
		{pages(), list3, 7, 9, 7, 11, 2},
		{pages(), list3, 5, 6, 5, 7, 2},
		{pages(), list3, 6, 7, 5, 7, 2},
		{pages(), list3, 7, 7, 7, 7, 2},
		{pages(), list3, 5, 11, 5, 11, 2},
		{pages(), list3, 4, 12, 4, 12, 1},
		{pages(), list3, 4, 6, 4, 12, 1},
		{pages(), list3, 4, 4, 4, 4, 1},
		{pages(), list3, 3, 4, 1, 4, 1},
		{pages(), list3, 9, 12, 4, 12, 1},
		// It is the document itself.
		{pages(), list3, 0, 14, 0, 14, 0},
		{pages(), list3, 0, 0, 0, 0, 0},
		{pages(), list3, 14, 14, 14, 14, 0},
		{pages(), list3, 1, 13, 0, 13, 0},
		{pages(), list3, 0, 3, 0, 13, 0},
		{pages(), list3, 9, 13, 0, 13, 0},
		{pages(), list3, 13, 14, 13, 14, 0},
		{pages(), "doc(p('a') p('b'))", 1, 4, 0, 6, 0},
		{pages(), "doc(p('a') hr p('b'))", 2, 4, 0, 4, 0},
		{books(), "top", 0, 0, 0, 0, 0},
		{small("top:", "p:text*"), "top", 0, 0, 0, 0, 0},
		// What is Inline holds what is not, and is held by what holds inline.
		{books(), foot, 5, 6, 4, 7, 3},
		{books(), foot, 4, 6, 4, 7, 3},
		{books(), foot, 4, 4, 4, 4, 3},
		{books(), foot, 7, 7, 7, 7, 3},
		{books(), foot, 3, 5, 1, 10, 1},
		{books(), foot, 2, 9, 1, 10, 1},
		{books(), foot, 1, 9, 1, 10, 1},
		{books(), foot, 1, 10, 1, 10, 1},
		{books(), foot, 0, 9, 0, 11, 0},
		{books(), "top(sec(fig[alt=,src=](par('a'))))", 3, 4, 2, 5, 2},
		{books(), "top(sec(fig[alt=,src=]))", 2, 2, 2, 2, 2},
		{books(), "top(sec(fig[alt=,src=]) sec)", 2, 5, 0, 6, 0},
		// All nodes hold inline, the document too: less than 0 it is never.
		{letters(), notes, 0, 1, 0, 1, 0},
		{letters(), notes, 1, 1, 1, 1, 0},
		{letters(), notes, 5, 6, 2, 8, 0},
		{letters(), notes, 3, 4, 2, 8, 0},
		{letters(), notes, 1, 5, 1, 8, 0},
		{letters(), notes, 5, 9, 2, 9, 0},
		{letters(), notes, 2, 8, 2, 8, 0},
		{small("doc:text*"), "doc('abc')", 1, 2, 1, 2, 0},
	} {
		blocksIs(t, may(t, x.s), tree(x.doc), x.from, x.to, api.Blocks{From: x.first, To: x.last, Depth: x.at}, ok)
	}
}

// What holds inline is told by the type, however its Content says so, and not by the Kids that there are.
func TestBlocksByContent(t *testing.T) {
	types := []api.NodeType{
		{Name: "img", Inline: true, Groups: list("bits")}, {Name: "text", Inline: true, Groups: list("bits")},
		{Name: "q", Content: "text*", Groups: list("rows")}, {Name: "r", Groups: list("rows")},
	}
	for content, depth := range map[string]int{
		"text?": 0, "img*": 0, "bits*": 0, "(img text)?": 0, "(img | text){0,3}": 0, "text* img?": 0, "img{0,2} text*": 0,
		"rows*": 1, "q?": 1, "r? q?": 1, "(q | r){0,2}": 1, "box?": 1,
	} {
		s := may(t, api.Schema{Types: append([]api.NodeType{{Name: "doc", Content: "box*"}, {Name: "box", Content: content}}, types...)})
		blocksIs(t, s, tree("doc(box)"), 1, 1, api.Blocks{From: depth, To: 2 - depth, Depth: depth}, ok)
	}
}

// wayHasItsDepth fails unless the way to the place at of n, whose row is l, has that depth and 1 Spots (P9.3).
func wayHasItsDepth(t testing.TB, s api.Schema, n api.Node, l []api.Token, at int) {
	t.Helper()
	spots, e := place.Find(s, n, at)
	if e != ok || len(spots) != row.Depth(l, at)+1 {
		t.Errorf("Find of %.500s at %d: %s, error %d, its depth is %d", told(n), at, shownWay(spots), e, row.Depth(l, at))
	}
	sharedIs(t, s, n, at, at, row.Depth(l, at), ok)
}

// tokensOf is the row of n.
func tokensOf(t testing.TB, s api.Schema, n api.Node) []api.Token {
	t.Helper()
	l, e := row.Of(s, n)
	if e != ok {
		t.Fatalf("the row of %s: error %d", told(n), e)
	}
	return l
}

func TestWordsOfTheWhole(t *testing.T) {
	for _, x := range alongs() {
		n := tree(x.doc)
		l := tokensOf(t, x.schema, n)
		for at := range len(l) + 1 {
			first, _ := place.Words(x.schema, n, 0, at)
			last, _ := place.Words(x.schema, n, at, len(l))
			if first+last != node.Words(n) {
				t.Errorf("Words of %s up to %d, and behind: %q, %q", x.doc, at, first, last)
			}
		}
	}
}

func TestTheExamples(t *testing.T) {
	s, d := pages(), tree("doc(p('a' 'b'^em) hr)")
	findIs(t, s, d, 2, []api.Spot{{Type: "doc"}, {Type: "p", Start: 1, Index: 1}}, ok)
	findIs(t, s, d, 4, []api.Spot{{Type: "doc", Index: 1}}, ok)
	atIs(t, s, d, 4, api.Node{Type: "hr"}, true)
	atIs(t, s, d, 5, api.Node{}, false)
	betweenIs(t, s, d, 2, 5, []api.Seen{{Type: "p"}, {Type: "text", Place: 2}, {Type: "hr", Place: 4}}, ok)
	wordsIs(t, s, d, 0, 5, "ab", ok)
	sharedIs(t, s, d, 1, 5, 0, ok)
	blocksIs(t, s, d, 1, 2, api.Blocks{To: 4}, ok)
	endsIs(t, s, d, 2, [2]int{1, 3}, ok)
}
