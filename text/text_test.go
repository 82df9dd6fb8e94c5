package text_test

import (
	"slices"
	"strings"
	"testing"

	"copydesk/api"
	"copydesk/row"
	"copydesk/text"
)

// P14.1

// tellings are nodes, and their texts.
func tellings() map[string]api.Node {
	eight := "{a=\"\",b=\"\",c=\"\",d=\"\",e=\"\",f=\"\",g=\"\",h=\"\"}"
	return map[string]api.Node{
		`doc(p("a","b"^em),hr)`: of("doc", of("p", words("a"), on(words("b"), "em")), of("hr")),
		`doc(h{level="1"})`:     of("doc", with(of("h"), "level=1")),

		`p`:            of("p"),
		`az`:           of("az"),
		name16:         of(name16),
		`texts`:        of("texts"),
		`p(p)`:         of("p", of("p")),
		`p(p,q,p)`:     of("p", of("p"), of("q"), of("p")),
		`p(q(r),s(t))`: of("p", of("q", of("r")), of("s", of("t"))),

		`"a"`:                     words("a"),
		`" "`:                     words(" "),
		`"~"`:                     words("~"),
		`"  a b  "`:               words("  a b  "),
		`"\""`:                    words(`"`),
		`"\\"`:                    words(`\`),
		`"\\\""`:                  words(`\"`),
		`"\"\\"`:                  words(`"\`),
		`"a\\n\"b\"\\\\"`:         words(`a\n"b"\\`),
		`"{}()^,='"`:              words("{}()^,='"),
		`"` + value65 + `"`:       words(value65),
		`"a"^em`:                  on(words("a"), "em"),
		`"a"^em^code`:             on(on(words("a"), "em"), "code"),
		`"a"^em^em`:               on(on(words("a"), "em"), "em"),
		`"a"^a{href="x\"\\"}^b`:   on(on(words("a"), "a", `href=x"\`), "b"),
		`p("a","a","b"^em,"b")`:   of("p", words("a"), words("a"), on(words("b"), "em"), words("b")),
		`p^em`:                    on(of("p"), "em"),
		`p^text`:                  on(of("p"), "text"),
		`p^` + name16:             on(of("p"), name16),
		`p^em("a")`:               on(of("p", words("a")), "em"),
		`p^z^a^m`:                 on(on(on(of("p"), "z"), "a"), "m"),
		`p{a="1"}^em{b="2"}("a")`: with(on(of("p", words("a")), "em", "b=2"), "a=1"),

		`p{a=""}`:                with(of("p"), "a="),
		`p{a="",b="~ "}`:         with(of("p"), "a=", "b=~ "),
		`p{a="1",ab="2",b="3"}`:  with(of("p"), "a=1", "ab=2", "b=3"),
		`p{a="{}()^,='"}`:        with(of("p"), "a={}()^,='"),
		`p{a="\"\\\""}`:          with(of("p"), `a="\"`),
		`p{text="1"}`:            with(of("p"), "text=1"),
		`p{a="` + value64 + `"}`: with(of("p"), "a="+value64),
		`p{` + name16 + `=""}`:   with(of("p"), name16+"="),
		`p{a="` + strings.Repeat(`\"`, 64) + `"}`:    with(of("p"), "a="+strings.Repeat(`"`, 64)),
		`p^em{a="` + strings.Repeat(`\\`, 64) + `"}`: on(of("p"), "em", "a="+strings.Repeat(`\`, 64)),
		`p` + eight: with(of("p"), letters(8)...),
		`p` + eight + `^em` + eight + `^em` + eight:                           with(on(on(of("p"), "em", letters(8)...), "em", letters(8)...), letters(8)...),
		`p^em{a="1",b="2"}^em{a="1",b="3"}(q,r{z=""})`:                        on(on(of("p", of("q"), with(of("r"), "z=")), "em", "a=1", "b=2"), "em", "a=1", "b=3"),
		strings.Repeat("p(", 15) + "q" + strings.Repeat(")", 15):              tower(of("q"), 15),
		strings.Repeat("p(", 15) + `"a"^em{a=""}` + strings.Repeat(")", 15):   tower(on(words("a"), "em", "a="), 15),
		`q(` + strings.Repeat("p(", 14) + "q" + strings.Repeat(")", 14) + `)`: of("q", tower(of("q"), 14)),
	}
}

func TestNode(t *testing.T) {
	for want, n := range tellings() {
		if s, e := text.Node(n); s != want || e != ok {
			t.Errorf("Node of %s: %q, error %d, want %q", shown([]api.Node{n}), s, e, want)
		}
		if s, e := text.List([]api.Node{n}); s != want || e != ok {
			t.Errorf("List of %s: %q, error %d, want %q", shown([]api.Node{n}), s, e, want)
		}
		asTold(t, []api.Node{n, n})
	}
}

func TestList(t *testing.T) {
	for want, l := range map[string][]api.Node{
		"":                      nil,
		"p":                     {of("p")},
		"p,p":                   {of("p"), of("p")},
		`"a","a"`:               {words("a"), words("a")},
		`p(q,r),"b"^em,s{a=""}`: {of("p", of("q"), of("r")), on(words("b"), "em"), with(of("s"), "a=")},
	} {
		if s, e := text.List(l); s != want || e != ok {
			t.Errorf("List of %s: %q, error %d, want %q", shown(l), s, e, want)
		}
		asTold(t, l)
	}
}

// wrongs are nodes that can't be told.
func wrongs() []api.Node {
	kid, worded := words("a"), of("p")
	kid.Kids, worded.Text = []api.Node{words("b")}, "a"
	return []api.Node{
		{}, of(""), of("P"), of("p1"), of("p "), of("\x00"), of("\u00e4"), of(name17), of("p", of("")), of("p", of("q"), of("r", of(name17))),
		words(""), words("\n"), words("\x1f"), words("\x7f"), words("\x00"), words("\u00e4"), words("a\xff"), words("\x1fa"), words("aaa\x7faaa"),
		with(words("a"), "a=1"), kid, worded, with(worded, "a=1"), on(worded, "em"), of("text"), of("text", of("p")), with(of("text"), "a="), of("p", of("text")),
		on(of("p"), ""), on(of("p"), "P"), on(of("p"), name17), on(words("a"), ""), on(words("a"), "em "), on(on(of("p"), "em"), "1"), on(on(of("p"), "^"), "em"),
		with(of("p"), "=1"), with(of("p"), "A=1"), with(of("p"), name17+"=1"), with(of("p"), "a=\n"), with(of("p"), "a=\x1f"), with(of("p"), "a=1\x7f"), with(of("p"), "a=\u00e4"), with(of("p"), "a="+value65),
		with(of("p"), "b=1", "a=2"), with(of("p"), "a=1", "a=2"), with(of("p"), "a=1", "a=1"), with(of("p"), "ab=1", "a=1"), with(of("p"), "a=1", "c=1", "b=1"), with(of("p"), letters(9)...), with(of("p"), "a=1", "b=\x80"),
		on(of("p"), "em", "=1"), on(of("p"), "em", "a=\n"), on(of("p"), "em", "a="+value65), on(of("p"), "em", "b=1", "a=2"), on(words("a"), "em", letters(9)...), on(words("a"), "em", "a=1", "a=1"), on(on(words("a"), "em"), "em", "a=\t"),
	}
}

func TestNodesThatCannotBeTold(t *testing.T) {
	for _, n := range wrongs() {
		for _, l := range [][]api.Node{{n}, {of("p"), n}, {n, of("p")}, {of("p", n)}, {of("p", of("q"), n), of("r")}, {of("p", of("q", n))}, {tower(n, 12)}} {
			if s, e := text.List(l); s != "" || e != arg {
				t.Errorf("List of %s: %q, error %d", shown(l), s, e)
			}
			if s, e := text.Node(of("p", l...)); s != "" || e != arg {
				t.Errorf("Node of %s: %q, error %d", shown(l), s, e)
			}
			asTold(t, l)
		}
	}
}

func TestNodesThatAreTooDeep(t *testing.T) {
	kid := words("a")
	for i := range 20 {
		for _, n := range []api.Node{of("q"), words("a"), of("q", of("r"), of("s"))} {
			n = tower(n, i)
			_, e := asTold(t, []api.Node{of("p"), n})
			if deep := deepByWords([]api.Node{n}); (e == ok) != (deep <= 16) || (e == long) != (deep > 16) {
				t.Errorf("%d deep: error %d", deep, e)
			}
		}
	}
	// The bound counts ahead of what can't be told, wherever either stands, and the Kids of a text count.
	kid.Kids = []api.Node{of("p")}
	for i, l := range [][]api.Node{
		{tower(of("q"), 16)}, {of("p"), tower(of("q"), 16)}, {tower(of("q"), 16), of("")}, {of(""), tower(of("q"), 16)}, {tower(of(""), 16)}, {tower(words(""), 16)}, {with(tower(of("q"), 16), "b=", "a=")}, {on(tower(of("q"), 16), "")},
		{tower(kid, 15)}, {words("a"), tower(words("\n"), 70)}, {tower(of("q"), 1<<16)},
	} {
		if s, e := text.List(l); s != "" || e != long {
			t.Errorf("%d: %q, error %d", i, cut(s), e)
		}
	}
	if s, e := text.List([]api.Node{tower(kid, 14)}); s != "" || e != arg {
		t.Errorf("%q, error %d", s, e)
	}
}

func TestTextsThatAreTooLong(t *testing.T) {
	const most = 1 << 18
	ps := slices.Repeat([]api.Node{of("p")}, most/2)
	for i, l := range [][]api.Node{
		{words(strings.Repeat("a", most-2))},
		{words(strings.Repeat(`"`, most/2-1))},
		{words(strings.Repeat(`\`, most/2-2) + "aa")},
		{of("p", words(strings.Repeat("a", most-5)))},
		append(slices.Clone(ps[1:]), of("pp")),
		{of("pp", ps[:most/2-3]...), of("p")},
		{on(words(strings.Repeat("a", most-14)), "em", "a=12")},
	} {
		size := len(listByWords(l))
		for more := most - size; more <= most-size+2; more++ {
			n := append(slices.Clone(l[:len(l)-1]), l[len(l)-1])
			n[len(n)-1].Marks = append(slices.Clone(n[len(n)-1].Marks), tag(more)...)
			s, e := text.List(n)
			if want := listByWords(n); len(want) > most && (s != "" || e != long) || len(want) <= most && (s != want || e != ok) {
				t.Errorf("%d: %d bytes, of %d, error %d", i, len(s), len(want), e)
			}
		}
		if size > most {
			t.Errorf("%d: %d bytes", i, size)
		}
		// What can't be told counts ahead of the length, and how deep it is ahead of both.
		l = append(l, words(strings.Repeat("a", most)))
		for _, x := range []struct {
			n    api.Node
			want api.Errno
		}{{of("p"), long}, {of(""), arg}, {words("\n"), arg}, {tower(of(""), 16), long}} {
			if s, e := text.List(append(slices.Clone(l), x.n)); s != "" || e != x.want {
				t.Errorf("%d: %d bytes, error %d, want %d", i, len(s), e, x.want)
			}
		}
	}
	for size, want := range map[int]api.Errno{most - 3: ok, most - 2: ok, most - 1: long, most: long, 1 << 22: long} {
		if s, e := text.Node(words(strings.Repeat("a", size))); e != want || e == ok && len(s) != size+2 || e != ok && s != "" {
			t.Errorf("a text of %d bytes: %d, error %d", size, len(s), e)
		}
	}
}

// tag are marks whose texts have so many bytes together; none of 0 and 1.
func tag(size int) []api.Mark {
	var l []api.Mark
	for ; size > 1; size -= 2 {
		if size == 3 {
			return append(l, api.Mark{Type: "mm"})
		}
		l = append(l, api.Mark{Type: "m"})
	}
	return l
}

func TestQuote(t *testing.T) {
	for s, want := range map[string]string{
		"": `""`, "a": `"a"`, `"`: `"\""`, `\`: `"\\"`, `\"`: `"\\\""`, `"a\b"`: `"\"a\\b\""`, "\n\x00\xff": "\"\n\x00\xff\"", "\u00e4\u2028": "\"\u00e4\u2028\"", `\n`: `"\\n"`, "'": `"'"`,
	} {
		if got := text.Quote(s); got != want {
			t.Errorf("Quote of %q: %q, want %q", s, got, want)
		}
	}
	for a := range 256 {
		for b := range 256 {
			s := string([]byte{byte(a), byte(b)})
			if got := text.Quote(s); got != quoteByWords(s) {
				t.Errorf("Quote of %q: %q", s, got)
			}
		}
	}
	if s := strings.Repeat(`"`, 1<<19); text.Quote(s) != quoteByWords(s) {
		t.Error("Quote of many bytes")
	}
}

func TestToken(t *testing.T) {
	attrs, marks := pairs([]string{"a=1", `b="`}), on(on(of(""), "em"), "a", "href=x").Marks
	for _, x := range []struct {
		token api.Token
		want  string
		e     api.Errno
	}{
		{api.Token{Kind: api.TokOpen, Type: "p"}, "<p", ok},
		{api.Token{Kind: api.TokOpen, Type: "p", Attrs: attrs, Marks: marks}, `<p{a="1",b="\""}^em^a{href="x"}`, ok},
		{api.Token{Kind: api.TokOpen, Type: name16}, "<" + name16, ok},
		{api.Token{Kind: api.TokClose}, ">", ok},
		{api.Token{Kind: api.TokLeaf, Type: "hr"}, "hr", ok},
		{api.Token{Kind: api.TokLeaf, Type: "hr", Attrs: attrs, Marks: marks}, `hr{a="1",b="\""}^em^a{href="x"}`, ok},
		{api.Token{Kind: api.TokChar, Char: 'a'}, `"a"`, ok},
		{api.Token{Kind: api.TokChar, Char: '"', Marks: marks}, `"\""^em^a{href="x"}`, ok},
		{api.Token{Kind: api.TokChar, Char: '\\'}, `"\\"`, ok},
		{api.Token{Kind: api.TokChar, Char: ' '}, `" "`, ok},
		{api.Token{Kind: api.TokChar, Char: '~'}, `"~"`, ok},

		// What its kind does not have is not told.
		{api.Token{Kind: api.TokOpen, Type: "p", Char: 'a'}, "<p", ok},
		{api.Token{Kind: api.TokLeaf, Type: "p", Char: '\n'}, "p", ok},
		{api.Token{Kind: api.TokClose, Type: "P", Attrs: attrs, Marks: []api.Mark{{}}, Char: 'a'}, ">", ok},
		{api.Token{Kind: api.TokChar, Type: "p", Attrs: []api.Attr{{}}, Char: 'a'}, `"a"`, ok},

		{api.Token{}, "", arg},
		{api.Token{Kind: 5, Type: "p"}, "", arg},
		{api.Token{Kind: -1, Type: "p", Char: 'a'}, "", arg},
		{api.Token{Kind: 1 << 40, Char: 'a'}, "", arg},
		{api.Token{Kind: api.TokOpen}, "", arg},
		{api.Token{Kind: api.TokOpen, Type: "text"}, "", arg},
		{api.Token{Kind: api.TokOpen, Type: "text", Char: 'a'}, "", arg},
		{api.Token{Kind: api.TokOpen, Type: name17}, "", arg},
		{api.Token{Kind: api.TokOpen, Type: "p", Attrs: pairs([]string{"b=", "a="})}, "", arg},
		{api.Token{Kind: api.TokOpen, Type: "p", Marks: []api.Mark{{}}}, "", arg},
		{api.Token{Kind: api.TokLeaf}, "", arg},
		{api.Token{Kind: api.TokLeaf, Type: "text", Char: 'a'}, "", arg},
		{api.Token{Kind: api.TokLeaf, Type: "hr", Attrs: pairs(letters(9))}, "", arg},
		{api.Token{Kind: api.TokLeaf, Type: "hr", Marks: []api.Mark{{Type: "E"}}}, "", arg},
		{api.Token{Kind: api.TokChar}, "", arg},
		{api.Token{Kind: api.TokChar, Char: '\n'}, "", arg},
		{api.Token{Kind: api.TokChar, Char: 31}, "", arg},
		{api.Token{Kind: api.TokChar, Char: 127}, "", arg},
		{api.Token{Kind: api.TokChar, Char: 255}, "", arg},
		{api.Token{Kind: api.TokChar, Char: 'a', Marks: []api.Mark{{Type: "em", Attrs: []api.Attr{{}}}}}, "", arg},
	} {
		if s, e := text.Token(x.token); s != x.want || e != x.e {
			t.Errorf("Token of %+v: %q, error %d, want %q, error %d", x.token, s, e, x.want, x.e)
		}
	}
	for c := range 256 {
		n := words(string([]byte{byte(c)}))
		want, f := text.Node(n)
		if s, e := text.Token(api.Token{Kind: api.TokChar, Char: byte(c)}); s != want || e != f || (e == ok) != (c >= 32 && c <= 126) {
			t.Errorf("Token of the byte %d: %q, error %d", c, s, e)
		}
	}
}

// A token that would be too long is told so by what Node tells of it.
func TestTokensThatAreTooLong(t *testing.T) {
	const most = 1 << 18
	for size, want := range map[int]api.Errno{most: ok, most + 1: long} {
		for _, x := range []struct {
			token api.Token
			ahead string
			whole int
		}{
			{api.Token{Kind: api.TokOpen, Type: "p", Marks: tag(size - 1)}, "<p", size + 1},
			{api.Token{Kind: api.TokLeaf, Type: "p", Marks: tag(size - 1)}, "p", size},
			{api.Token{Kind: api.TokChar, Char: 'a', Marks: tag(size - 3)}, `"a"`, size},
		} {
			s, e := text.Token(x.token)
			if e != want || e == ok && (len(s) != x.whole || !strings.HasPrefix(s, x.ahead+"^m")) || e != ok && s != "" {
				t.Errorf("Token of kind %d, of %d: %d bytes, error %d", x.token.Kind, size, len(s), e)
			}
		}
	}
}

// The tokens of a document's row, one behind the other, are told as its nodes are, byte by byte.
func TestTokensOfARow(t *testing.T) {
	s := api.Schema{Types: []api.NodeType{
		{Name: "doc", Content: "(p | hr)+"},
		{Name: "p", Content: "text*", Attrs: []api.AttrSpec{{Name: "a"}}, Marks: []string{"em"}},
		{Name: "hr"},
		{Name: "text", Inline: true},
	}, Marks: []api.MarkType{{Name: "em"}}}
	doc := of("doc", with(of("p", words("ab"), on(words(`"`), "em")), "a=1"), of("hr"))
	l, e := row.Of(s, doc)
	if e != ok {
		t.Fatal(e)
	}
	var all []string
	for _, one := range l {
		s, e := text.Token(one)
		if e != ok {
			t.Error(e)
		}
		all = append(all, s)
	}
	if got := strings.Join(all, " "); got != `<p{a="1"} "a" "b" "\""^em > hr` {
		t.Error(got)
	}
}
