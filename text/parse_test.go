package text_test

import (
	"slices"
	"strings"
	"testing"

	"copydesk/api"
	"copydesk/text"
)

// P14.2

func TestParse(t *testing.T) {
	for s, n := range tellings() {
		if l, at, e := text.Parse(s); e != ok || at != 0 || !alike(l, []api.Node{n}) {
			t.Errorf("Parse of %q: %s at %d, error %d", s, shown(l), at, e)
		}
		asParsed(t, s)
	}
	em := on(words("a"), "em")
	for s, want := range map[string][]api.Node{
		"": nil, " ": nil, "\n": nil, " \n\n  \n": nil,
		"p": {of("p")}, " p ": {of("p")}, "\np\n": {of("p")}, "p,q": {of("p"), of("q")}, " p\n,\nq ": {of("p"), of("q")},
		`"a","a"`: {words("a"), words("a")}, `p,"a"^em,q`: {of("p"), em, of("q")}, `p,p,p`: {of("p"), of("p"), of("p")},

		"p()": {of("p")}, "p{}": {of("p")}, "p{}()": {of("p")}, "p ( ) ": {of("p")}, "p\n{\n}\n": {of("p")}, "p{}(q{}(r()))": {of("p", of("q", of("r")))},
		"p^em{}": {on(of("p"), "em")}, "p{}^em{}^a{}()": {on(on(of("p"), "em"), "a")}, `"a"^em{}`: {em}, `"a"^em{ } `: {em}, "p(),q{}": {of("p"), of("q")},

		`p { a = "1" , b = "" } ^ em { c = " " } ^ a ( "x" ^ em , q ) `: {with(on(on(of("p", on(words("x"), "em"), of("q")), "em", "c= "), "a"), "a=1", "b=")},
		"p\n{\na\n=\n\"1\"\n}\n^\nem\n(\n\"a\"\n^\nem\n)":               {with(on(of("p", em), "em"), "a=1")},
		`p{a="1"}^em`: {with(on(of("p"), "em"), "a=1")}, `p^em{a="1"}`: {on(of("p"), "em", "a=1")}, `p^text`: {on(of("p"), "text")}, `p{text="text"}`: {with(of("p"), "text=text")},
		`" a "`: {words(" a ")}, `"\"\\"`: {words(`"\`)}, `"\\n"`: {words(`\n`)}, `"()"`: {words("()")}, `"p{a=1}"`: {words("p{a=1}")},
		"tex": {of("tex")}, "textt": {of("textt")}, "atext": {of("atext")}, "te": {of("te")},
	} {
		if l, at, e := text.Parse(s); e != ok || at != 0 || !alike(l, want) {
			t.Errorf("Parse of %q: %s at %d, error %d", s, shown(l), at, e)
		}
		asParsed(t, s)
	}
}

func TestParseOfNoText(t *testing.T) {
	eight := `a="",b="",c="",d="",e="",f="",g="",h=""`
	for s, want := range map[string]int{
		"p(; ": 2,

		// At the beginning, and between nodes.
		"P": 0, "1": 0, "{": 0, "}": 0, "(": 0, ")": 0, ",": 0, "^": 0, "=": 0, `\`: 0, "'a'": 0, "-": 0, "\t": 0, "\r": 0, "\x00": 0, "\xff": 0, "\u00e4": 0, "\v": 0, "\u00a0": 0,
		" \nP": 2, ",p": 0, " ,": 1, "()": 0, "{}": 0, "^em": 0, `=""`: 0, "p q": 2, "p\nq": 2, `p"a"`: 1, `p "a"`: 2, `"a""b"`: 3, `"a" "b"`: 4, `"a"p`: 3, `"a" p`: 4,
		"p)": 1, "p,,q": 2, "p,)": 2, "p,(": 2, "p,{}": 2, "p, ,": 3, "pP": 1, "p1": 1, "p\x00": 1, "p\xff": 1, "p\t": 1, "p\r\n": 1, "p;q": 1, "p}": 1, "p=": 1, "p]": 1, "p(q))": 4, "p(q)(r)": 4, "p(q){}": 4, "p(q)^em": 4, "p()^em": 3, "p(q)r": 4,
		"p,\x00": 2, "p\x00,": 1, "p \x00": 2,

		// Something is missing at the end.
		"p,": 2, "p, ": 3, "p,\n": 3, "p(": 2, "p( ": 3, "p(q": 3, "p(q ": 4, "p(q,": 4, "p(q, ": 5, "p(q()": 5, "p(q(r)": 6, "p(q(r),": 7, "p{": 2, "p{ ": 3, "p{a": 3, "p{a ": 4, "p{a=": 4, "p{a= ": 5, `p{a="`: 5, `p{a=" `: 6, `p{a="1`: 6, `p{a="1"`: 7, `p{a="1" `: 8, `p{a="1",`: 8, `p{a="1", `: 9, `p{a="1",b`: 9, `p{a="1",b="2"`: 13,
		`p{a="\`: 6, `p{a="\"`: 7, `p{a="\\`: 7, "p^": 2, "p^ ": 3, "p^em^": 5, "p^em{": 5, "p^em(": 5, `"`: 1, `"a`: 2, `" `: 2, `"\`: 2, `"\"`: 3, `"\\`: 3, `"a"^`: 4, `"a"^em{`: 7, `"a",`: 4, `p("a"`: 5, `p("`: 3, "p{}(": 4, "p{}^": 4, `p{a="` + value65: 70, `"` + value65: 66,

		// Signs that do not stand there.
		"p(,)": 2, "p(,q)": 2, "p(q,)": 4, "p(q,,r)": 4, "p(q r)": 4, "p(q{)": 4, "p(()": 2, "p({})": 2, "p(^em)": 2, "p(q}": 3, "p(=": 2, "p(q;r)": 3,
		"p{,}": 2, `p{,a="1"}`: 2, `p{a="1",}`: 8, `p{a="1",,b="2"}`: 8, "p{a}": 3, "p{a,b}": 3, "p{a=}": 4, "p{a=1}": 4, "p{a=b}": 4, "p{a==": 4, `p{a"1"}`: 3, `p{"a"="1"}`: 2, `p{a="1"b="2"}`: 7, `p{a="1" b="2"}`: 8, `p{a="1";b="2"}`: 7, `p{a="1")`: 7, "p{a b": 4, "p{^": 2, "p{(": 2, "p{{": 2, "p{A": 2, "p{1": 2, "p{a1": 3, "p{aA": 3, "p{a=,": 4,
		"p{}{}": 3, "p{} {}": 4, `p{a="1"}{b="2"}`: 8, "p^em{}{}": 6, "p^^em": 2, "p^{}": 2, "p^()": 2, `p^"em"`: 2, "p^,": 2, "p^1": 2, "p^E": 2, "p^emE": 4, "p^em em": 5, "p^em=": 4, "p^em}": 4, "p^em)": 4, "p^em{)": 5, `p^em{a="1"`: 10, `p^em"a"`: 4,
		`"a"^"b"`: 4, `"a"^^`: 4, `"a"{`: 3, `"a"{}`: 3, `"a" {a="1"}`: 4, `"a"(`: 3, `"a"()`: 3, `"a"^em(`: 6, `"a"^em()`: 6, `"a"^em{}()`: 8, `"a"^em{}{}`: 8, `"a")`: 3, `"a"}`: 3, `"a"=`: 3, `p("a"())`: 5, `p("a"^em(q))`: 8,

		// A name that is none; of a node, the name text.
		name17: 0, " " + name17: 1, "p," + name17: 2, "p(" + name17 + ")": 2, name17 + "P": 0, name17 + "(": 0, name16 + "P": 16, strings.Repeat("n", 1<<18): 0, "p^" + name17: 2, "p^ " + name17 + "{": 3, `"a"^` + name17: 4, "p{" + name17: 2, "p{" + name17 + `="1"}`: 2, `p{a="1", ` + name17: 9, "p^em{" + name17 + "}": 5,
		"text": 0, " text": 1, "text,": 0, "text(p)": 0, `text{a="1"}`: 0, "text P": 0, `text"a"`: 0, "p,text": 2, "p(text)": 2, "p(q, text": 5, "p(q(text^em))": 4, "textP": 0, "text1": 0,

		// An attribute's name that does not rise, or is one too many.
		`p{b="1",a="2"}`: 8, `p{a="1",a="2"}`: 8, `p{a="1", a="2"}`: 9, `p{a="1",b="2",b`: 14, `p{a="1",c="2",b="3"}`: 14, `p{ab="1",a="2"}`: 9, `p{ab="1",aa="2"}`: 9, `p{b="1",a`: 8, `p{b="1",a,`: 8, `p{b="1",a="`: 8, `p{b="1",a=` + "\x00": 8, `p{b="1",a="2",c="3"`: 8, `p^em{b="1",a="2"}`: 11, `"a"^em{b="1",a="2"}`: 13, `"a"^em{b="1",b="2"}`: 13,
		"p{" + eight + `,i=""}`: 42, "p{" + eight + `, i`: 43, "p{" + eight + ",a": 42, "p{" + eight + "," + name17: 42, "p{" + eight + ",": 42, "p{" + eight + ", ": 43, "p{" + eight + ",}": 42, "p{" + eight + ",P": 42, "p{" + eight + "}{": 42, "p^em{" + eight + `,z="\n"}`: 45, `"a"^em{` + eight + ",i}": 47,

		// A byte in quotes that may not be there.
		"\"\n\"": 1, "\"a\n": 2, "\"\x1f\"": 1, "\"\x7f\"": 1, "\"aa\x00": 3, "\"\u00e4\"": 1, "\"a\xff\"": 2, "\"\t\"": 1, "\"a\"^em{a=\"\n\"}": 10, "p{a=\"\x7f\"}": 5, "p{a=\"1\r\"}": 6, "p(\"a\",\"b\n\")": 8, "\"a\\\"\x1f": 4,
		// A sign ahead of what needs none.
		`"\n"`: 2, `"\a`: 2, `"a\ "`: 3, `"\'"`: 2, `"\\\x"`: 4, "\"\\\n\"": 2, "\"\\\x00": 2, "\"\\\xff": 2, `p{a="\1"}`: 6, `"\u0041"`: 2, `p("a\,")`: 5,

		// A value that is too long, but only if nothing else is wrong within its quotes.
		`p{a="` + value65 + `"}`: 4, `p{a= "` + value65 + `"`: 5, `p{a="` + value65 + `" P`: 4, `p{a="` + value65 + `";`: 4, `p{a="1",b="` + value65 + `",a="2"}`: 10, "p{a=\n\n\"" + strings.Repeat("v", 4096) + `"`: 6, `p^em{a="` + value65 + `"}`: 7, `"a"^em{a="` + value65 + `"}`: 9,
		`p{a="` + value64 + `"`: 70, `p{a="` + value64 + "\n\"}": 69, `p{a="` + value65 + "\n\"}": 70, `p{a="` + value65 + `\n"}`: 71, `p{a="` + value65 + `\`: 71, `p{a="` + value65 + "\x7f": 70, "p{a=\"\x00" + value65 + `"}`: 5,
		`p{a="` + strings.Repeat(`\"`, 65) + `"}`: 4, `p{a="` + strings.Repeat(`\\`, 64) + `v"}`: 4, `p{a="` + strings.Repeat(`\\`, 64) + `"`: 134,

		// A text without a byte.
		`""`: 0, ` ""`: 1, `"" `: 0, `""^em`: 0, `"",p`: 0, `"""`: 0, `p,""`: 2, `p("")`: 2, `p("a", "")`: 7, `"a",""`: 4, `""P`: 0, `""{`: 0, "\n\"\"": 1,
	} {
		if l, at, e := text.Parse(s); e != bad || at != want || len(l) > 0 {
			t.Errorf("Parse of %q: %s at %d, error %d, want %d", cut(s), shown(l), at, e, want)
		}
		asParsed(t, s)
	}
}

// Each byte where there may be blanks, within quotes, and behind a sign in quotes.
func TestParseOfEachByte(t *testing.T) {
	var quoted string
	for c := byte(' '); c <= '~'; c++ {
		quoted += string([]byte{c})
	}
	const az = "abcdefghijklmnopqrstuvwxyz"
	for c := range 256 {
		sign := string([]byte{byte(c)})
		for _, x := range []struct{ ahead, behind, may string }{
			{"", "", " \n" + az + `"`},
			{"", "q", " \n\"" + az},
			{"p", "", " \n{^(," + az},
			{"p ", "", " \n{^(,"},
			{"p", "q", " \n{^(," + az},
			{"p(", "", " \n)" + az + `"`},
			{"p(q", "", " \n{^(,)" + az},
			{"p(q)", "", " \n,"},
			{"p,", "", " \n" + az + `"`},
			{"p{", "", " \n}" + az},
			{"p{b", "", " \n=" + az},
			{"p{a ", `="1"}`, " \n="},
			{"p{a=", "", " \n\""},
			{`p{a="`, "", quoted},
			{`p{a="1`, "", quoted},
			{`p{a="1"`, "", " \n,}"},
			{`p{a="1",`, "", " \nbcdefghijklmnopqrstuvwxyz"},
			{`p{a="1",a`, `="2"}`, az},
			{"p{}", "", " \n^(,"},
			{"p^", "", " \n" + az},
			{"p^em", "", " \n{^(," + az},
			{"p^em{}", "", " \n^(,"},
			{`"`, "", strings.ReplaceAll(quoted, `"`, "")},
			{`"a`, "", quoted},
			{`"\`, "", `"\`},
			{`"a"`, "", " \n^,"},
			{`"a"^em`, "", " \n{^," + az},
			{`"a"^em{}`, "", " \n^,"},
			{`"a",`, "", " \n" + az + `"`},
		} {
			s := x.ahead + sign + x.behind
			_, at, e := text.Parse(s)
			if stops := e == bad && at <= len(x.ahead); stops == strings.Contains(x.may, sign) {
				t.Errorf("Parse of %q: at %d, error %d", s, at, e)
			}
			asParsed(t, s)
		}
	}
}

func TestParseOfWhatIsTooDeep(t *testing.T) {
	for deep := range 19 {
		ahead, behind := strings.Repeat("p(", deep), strings.Repeat(")", deep)
		for s, fault := range map[string]int{
			"q": -1, `"a"`: -1, "q^em": -1, "q,r": -1, "q()": 1, "q(": 1, "q (": 2, "q(r)": 1, "q\n\n( )": 3, `q{a="1"}()`: 8, "q^em()": 4, "q^em{}(": 6, "r,q(r)": 3, `"a","b",q(`: 9, "q(P": 1, "q(\x00": 1, "q(,": 1, "q((": 1, "q)(": -1, `"a"(`: -1, "qQ(": -1, "text(": -1, `q{a="1",a="2"}(`: -1, name17 + "(": -1, "q{(": -1,
		} {
			got, at, e := text.Parse(ahead + s + behind)
			switch {
			case deep > 15:
				// The one that is 16 deep is ahead of s.
				if e != long || at != 31 || len(got) > 0 {
					t.Errorf("Parse of %q: at %d, error %d", ahead+s, at, e)
				}
			case deep == 15 && fault >= 0:
				if e != long || at != 30+fault || len(got) > 0 {
					t.Errorf("Parse of %q: at %d, error %d", ahead+s, at, e)
				}
			case e == long:
				t.Errorf("Parse of %q: at %d, error %d", ahead+s, at, e)
			}
			asParsed(t, ahead+s+behind)
			asParsed(t, ahead+s)
			asParsed(t, "h("+strings.Repeat("p(),", 40)+"q),"+ahead+s+behind)
		}
	}
	for s, want := range map[string]int{strings.Repeat("p(", 1<<17): 31, " " + strings.Repeat("p( ", 40): 47, "p()," + strings.Repeat("p(", 16): 35, "p(q)," + strings.Repeat("p(q,", 16): 5 + 4*15 + 1} {
		if l, at, e := text.Parse(s); e != long || at != want || len(l) > 0 {
			t.Errorf("Parse of %q: at %d, error %d, want %d", cut(s), at, e, want)
		}
		asParsed(t, s)
	}
	// What can't go on ahead of it comes first.
	for s, want := range map[string]int{"P" + strings.Repeat("p(", 17): 0, strings.Repeat("p(", 15) + ",p(": 30, strings.Repeat("(", 17): 0, "p(" + strings.Repeat("(", 17): 2, strings.Repeat("p(", 15) + `"a",""(`: 34} {
		if l, at, e := text.Parse(s); e != bad || at != want || len(l) > 0 {
			t.Errorf("Parse of %q: at %d, error %d, want %d", cut(s), at, e, want)
		}
	}
}

func TestParseOfWhatIsTooLong(t *testing.T) {
	const most = 1 << 18
	for _, s := range []string{
		"", " ", "\n", "p", "P", `""`, "p(", `"`, `"a"`, "p{b=\"1\",a=\"2\"}", strings.Repeat("p(", 17), strings.Repeat("p,", most/2-1) + "p",
		`"` + strings.Repeat("a", most-2) + `"`, `"` + strings.Repeat("a", most-1), `"` + strings.Repeat(`\"`, most/2-1) + `"`, "p(" + strings.Repeat("q,", most/2-2) + "q)", "p(" + strings.Repeat("p,", most/2-2) + "pp", strings.Repeat("p{},", most/4-1) + "pppp", "p" + strings.Repeat("^m", most/2-1),
	} {
		for _, size := range []int{most - 1, most, most + 1, most + 2, 1 << 20} {
			if len(s) > size {
				continue
			}
			all := s + strings.Repeat(" ", size-len(s))
			asParsed(t, all)
			asParsed(t, strings.Repeat("\n", size-len(s))+s)
			if l, at, e := text.Parse(all); size > most && (e != long || at != -1 || len(l) > 0) || size <= most && at == -1 {
				t.Errorf("Parse of %d bytes, at first %q: at %d, error %d", size, cut(s), at, e)
			}
		}
	}
}

// all calls f for all texts of at most n of those parts.
func all(parts []string, n int, f func(string)) {
	var more func(s string, n int)
	more = func(s string, n int) {
		f(s)
		if n > 0 {
			for _, one := range parts {
				more(s+one, n-1)
			}
		}
	}
	more("", n)
}

func single(s string) []string {
	return strings.Split(s, "")
}

func TestParseOfAllShortTexts(t *testing.T) {
	all(single("pa\"\\{}=,^() \n\x00"), 4, func(s string) { asParsed(t, s) })
	all(single(`pq",^()`), 6, func(s string) { asParsed(t, s) })
	all(single(`"\ap `), 7, func(s string) { asParsed(t, s) })
	all(single(`"\a }`), 6, func(s string) { asParsed(t, `p{a="`+s) })
	all(single(`ab{}=",`), 5, func(s string) { asParsed(t, "p{"+s); asParsed(t, `"a"^`+s) })
	for _, ahead := range []string{`p{b="",`, `p^em{b="1",`, `"x"^em{b="1" , `, `p{a="",b="",c="",d="",e="",f="",g="",`, `q,p(q,"x"{`, strings.Repeat("p(", 14) + "q("} {
		all([]string{"a", "b", "h", "i", `=""`, ",", "}", "(", " ", ")"}, 4, func(s string) { asParsed(t, ahead+s) })
	}
	all([]string{"p", "(", `"a"`, ",", ")", "^m", "{}", `""`}, 5, func(s string) { asParsed(t, strings.Repeat("p(", 14)+s) })
	all([]string{"tex", "t", "text", "p", ",", "^", "{", "=", `"`, "(", " "}, 4, func(s string) { asParsed(t, s) })
}

// A fault within a text stays where it is, whatever follows; where something is missing at the end, it may go on.
func TestFaultsStay(t *testing.T) {
	ends := []string{"", "b", `"`, `\"`, `a"`, `b"`, `=""`, `""`, "}", `=""}`, `""}`, `"}`, `a"}`, `\"}`, `b=""}`}
	behind := []string{"p", "z", " ", "\n", `"`, `\`, "{", "}", "=", ",", "^", "(", ")", "\x00"}
	all([]string{"p", "(", ")", ",", "^", "{", "}", "a=", `"`, `\`, " "}, 5, func(s string) {
		_, at, e := text.Parse(s)
		if e == ok {
			return
		}
		if at == len(s) {
			closed := slices.ContainsFunc(ends, func(end string) bool {
				for n := range 6 {
					if _, _, e := text.Parse(s + end + strings.Repeat(")", n)); e == ok {
						return true
					}
				}
				return false
			})
			if !closed {
				t.Fatalf("Parse of %q: at %d, though nothing goes on from there", s, at)
			}
			return
		}
		// More letters may make another name of one that is at the end.
		for _, end := range behind {
			if _, again, e := text.Parse(s + end); again != at && strings.TrimRight(s, "ap") == s || e != bad {
				t.Fatalf("Parse of %q: at %d, error %d; of %q at %d", s+end, again, e, s, at)
			}
		}
	})
}
