package node_test

import (
	"slices"
	"strings"
	"testing"

	"copydesk/api"
	"copydesk/node"
)

// P7.2: Form, Words, Copy

func TestForm(t *testing.T) {
	for _, x := range [][2]string{
		{"", ""},
		{"p", "p"},
		{"p hr p", "p hr p"},
		{"'a'", "'a'"},

		// Texts without a byte: ahead, between, behind, alone.
		{"''", ""},
		{"'' ''", ""},
		{"''^em", ""},
		{"'' p", "p"},
		{"p ''", "p"},
		{"p '' p", "p p"},
		{"'' p '' '' p ''", "p p"},
		{"'' 'a'", "'a'"},
		{"'a' ''", "'a'"},
		{"''^em 'a'", "'a'"},
		{"'a' ''^em", "'a'"},
		{"''[a=1]^em(p) hr", "hr"},
		{"text", ""},
		{"text[a=1](p)", ""},

		// Texts side by side.
		{"'a' 'b'", "'ab'"},
		{"'b' 'a'", "'ba'"},
		{"'a' 'b' 'c' 'd'", "'abcd'"},
		{"'ab' 'cde' 'f'", "'abcdef'"},
		{"'a'^em 'b'^em", "'ab'^em"},
		{"'a'^em 'b'", "'a'^em 'b'"},
		{"'a' 'b'^em", "'a' 'b'^em"},
		{"'a'^em 'b'^code", "'a'^em 'b'^code"},
		{"'a'^em^code 'b'^code^em", "'a'^em^code 'b'^code^em"},
		{"'a'^em^code 'b'^em^code", "'ab'^em^code"},
		{"'a'^em^em 'b'^em", "'a'^em^em 'b'^em"},
		{"'a' 'b'^em 'c'^em 'd' 'e'", "'a' 'bc'^em 'de'"},
		{"'a'^em 'b' 'c'^em", "'a'^em 'b' 'c'^em"},
		{"'a'^zz[x=1] 'b'^zz[x=1]", "'ab'^zz[x=1]"},
		{"'a'^zz[x=1] 'b'^zz[x=2]", "'a'^zz[x=1] 'b'^zz[x=2]"},
		{"'a'^zz[x=1] 'b'^zz[y=1]", "'a'^zz[x=1] 'b'^zz[y=1]"},
		{"'a'^zz 'b'^zz[x=1]", "'a'^zz 'b'^zz[x=1]"},
		{"'a' br 'b'", "'a' br 'b'"},
		{"'a' p 'b' 'c' p 'd'", "'a' p 'bc' p 'd'"},
		{"p p", "p p"},
		{"p^em p^em", "p^em p^em"},
		{"'a' 'a'", "'aa'"},
		{"'\n' '\xff'", "'\n\xff'"},

		// They come side by side because one between them goes.
		{"'a' '' 'b'", "'ab'"},
		{"'a'^em '' 'b'^em", "'ab'^em"},
		{"'a'^em ''^code 'b'^em", "'ab'^em"},
		{"'a' ''^em '' ''^code 'b'", "'ab'"},
		{"'a'^em '' 'b'", "'a'^em 'b'"},
		{"'' 'a' '' 'b' '' 'c' ''", "'abc'"},

		// What else the first one has stays, what else the others have goes.
		{"'a'[x=1] 'b'", "'ab'[x=1]"},
		{"'a' 'b'[x=1]", "'ab'"},
		{"'a'[x=1] 'b'[y=2] 'c'(p)", "'abc'[x=1]"},
		{"'a'(p) 'b'(hr)", "'ab'(p)"},
		{"'a' 'b'(hr)", "'ab'"},
		{"''[x=1](p) 'a'", "'a'"},
		{"''(p) 'a'[y=1](hr) 'b'", "'ab'[y=1](hr)"},

		// Kids, and Kids within Kids.
		{"p('a' 'b')", "p('ab')"},
		{"p('')", "p"},
		{"p('a') p('b')", "p('a') p('b')"},
		{"p('a') '' p('b')", "p('a') p('b')"},
		{"doc(p('a'^em 'b'^em) p('' 'c'))", "doc(p('ab'^em) p('c'))"},
		{"doc('a' p('b' '' 'c' p('' 'd' ''^em 'e')) 'f' 'g')", "doc('a' p('bc' p('de')) 'fg')"},
		{"zz[a=1]^em^em(p[b=2]^x('a' ''))", "zz[a=1]^em^em(p[b=2]^x('a'))"},
		{"'a'('b' 'c')", "'a'('bc')"},
		{"'a'('b' 'c') 'd'('e' 'f')", "'ad'('bc')"},
		{"'a'('b'('c' '' 'd') 'e')", "'a'('be'('cd'))"},
		{"hr('a' 'b')", "hr('ab')"},

		// A Text counts as such of a node of the type text alone.
		{"p'a' p'b'", "p'a' p'b'"},
		{"p'a' 'b'", "p'a' 'b'"},
		{"'a' p'b' 'c'", "'a' p'b' 'c'"},
		{"p'a'('b' 'c')", "p'a'('bc')"},
		{"[x=1]", "[x=1]"},
		{"[x=1] [x=1]", "[x=1] [x=1]"},
	} {
		got := node.Form(forest(x[0]))
		if !allAlike(got, forest(x[1])) || !allAlike(formByWords(forest(x[0])), forest(x[1])) {
			t.Errorf("Form of %s: %s, want %s", x[0], shownAll(got), x[1])
		}
		if again := node.Form(got); !allAlike(again, got) {
			t.Errorf("Form of %s again: %s", shownAll(got), shownAll(again))
		}
		within := node.Form([]api.Node{tower(api.Node{Kids: forest(x[0])}, 3)})
		if !allAlike(within, []api.Node{tower(api.Node{Kids: forest(x[1])}, 3)}) {
			t.Errorf("Form of %s within others: %s", x[0], shownAll(within))
		}
	}
}

func TestFormOfMany(t *testing.T) {
	const many = 1 << 17
	var texts, parted []api.Node
	for range many {
		texts = append(texts, tree("'ab'"), tree("''^em"))
		parted = append(parted, tree("'ab'"), tree("'c'^em"))
	}
	if got := node.Form(texts); len(got) != 1 || got[0].Text != strings.Repeat("ab", many) {
		t.Errorf("%d texts became %d", len(texts), len(got))
	}
	if got := node.Form(parted); !allAlike(got, parted) {
		t.Errorf("%d texts became %d", len(parted), len(got))
	}
	deep := tower(tree("p('a' 'b')"), 1<<16-2)
	if got := node.Form([]api.Node{deep}); len(got) != 1 || node.Deep(got[0]) != 1<<16 || node.Words(got[0]) != "ab" {
		t.Error("what is deep")
	}
}

// Form changes nothing of a node that may be (P7.3).
func TestFormOfWhatMayBe(t *testing.T) {
	for i, l := range [][]shape{shapes(), bookShapes()} {
		s := []api.Schema{pages(), books()}[i]
		for _, x := range l {
			got := node.Form([]api.Node{tree(x.node)})
			if x.check == ok && !allAlike(got, []api.Node{tree(x.node)}) {
				t.Errorf("Form of %s: %s", x.node, shownAll(got))
			}
			if !allAlike(got, formByWords([]api.Node{tree(x.node)})) || !allAlike(node.Form(got), got) {
				t.Errorf("Form of %s: %s", x.node, shownAll(got))
			}
			if len(got) == 1 && x.check == ok && node.Check(s, got[0]) != ok {
				t.Errorf("Form of %s may not be", x.node)
			}
		}
	}
}

// All rows of up to five texts and others.
func TestFormOfFive(t *testing.T) {
	some := forest("'a' 'b'^em '' ''^em p('' 'c' 'd')")
	rows := [][]api.Node{nil}
	for i := 0; i < len(rows); i++ {
		if got := node.Form(rows[i]); !allAlike(got, formByWords(rows[i])) {
			t.Errorf("Form of %s: %s", shownAll(rows[i]), shownAll(got))
		}
		for _, n := range some {
			if len(rows[i]) < 5 {
				rows = append(rows, append(slices.Clone(rows[i]), n))
			}
		}
	}
}

func TestWords(t *testing.T) {
	for n, words := range map[string]string{
		"p": "", "''": "", "'a'": "a", "p('a' 'b')": "ab", "p('a' br 'b')": "ab", "doc(p('a' 'b'^em) hr p('c'))": "abc",
		"doc(li(p('ab') li(p('cd') p('e'))) p('f'))": "abcdef", "p'x'": "x", "p'x'('y' p'z'('w'))": "xyzw", "'a'('b' 'c')": "abc", "hr'a'": "a",
		"'a'[x=1]^em": "a", "zz('a'^b[c=d])": "a", "' ~'": " ~", "p('\x00' '\xff')": "\x00\xff", "(('a') 'b' ('c' ('d')))": "abcd",
	} {
		if got := node.Words(tree(n)); got != words {
			t.Errorf("Words of %s: %q, want %q", n, got, words)
		}
	}
	if got := node.Words(tower(tree("p('a' 'b')"), 1<<16-2)); got != "ab" {
		t.Errorf("Words of what is deep: %q", got)
	}
	great := api.Node{Kids: slices.Repeat([]api.Node{fill(1000)}, 1000)}
	if got := node.Words(great); got != strings.Repeat("a", 1000*1000) {
		t.Errorf("%d bytes", len(got))
	}
}

func TestCopy(t *testing.T) {
	for _, x := range append(shapes(), bookShapes()...) {
		if got := node.Copy(tree(x.node)); !alike(got, tree(x.node)) {
			t.Errorf("Copy of %s: %s", x.node, shown(got))
		}
	}
	for _, n := range []api.Node{{}, tree("zz[a=1,a=1]^x[b=2]^x^'a'('' ''(p))"), tower(tree("p('a' '')"), 1<<16-2), doc(slices.Repeat([]api.Node{tree("hr")}, 1<<17)...)} {
		if got := node.Copy(n); !alike(got, n) {
			t.Errorf("Copy of %.200s: %.200s", shown(n), shown(got))
		}
	}
}
