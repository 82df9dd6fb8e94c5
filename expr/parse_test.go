package expr_test

import (
	"math/rand"
	"regexp"
	"slices"
	"strconv"
	"strings"
	"testing"

	"copydesk/api"
	"copydesk/expr"
)

// zero tells whether nothing stands in e.
func zero(e api.Expr) bool {
	return expr.Same(e, api.Expr{})
}

// P3.2

var a, b, c = name("a"), name("b"), name("c")

func TestParse(t *testing.T) {
	deep, flat := strings.Repeat("(", 511), strings.Repeat(")", 511)
	for s, want := range map[string]api.Expr{
		"":                                seq(),
		" ":                               seq(),
		"    ":                            seq(),
		"p":                               p,
		" p ":                             p,
		name16:                            name(name16),
		"az":                              name("az"),
		"((p))":                           p,
		" ( ( p ) ) ":                     p,
		deep + "pp" + flat:                name("pp"),
		"p+ (h | li{2,3})*":               seq(many(1, -1, p), many(0, -1, alt(name("h"), many(2, 3, name("li"))))),
		"p+(h|li{2,3})*":                  seq(many(1, -1, p), many(0, -1, alt(name("h"), many(2, 3, name("li"))))),
		"  p  + ( h | li { 2 , 3 } ) *  ": seq(many(1, -1, p), many(0, -1, alt(name("h"), many(2, 3, name("li"))))),

		"a b":         seq(a, b),
		"a   b":       seq(a, b),
		"a(b)c":       seq(a, b, c),
		"(a)(b)(c)":   seq(a, b, c),
		"a (b c)":     seq(a, b, c),
		"(a b) c":     seq(a, b, c),
		"(a (b c))":   seq(a, b, c),
		"((a b) c)":   seq(a, b, c),
		"(a b)(c a)":  seq(a, b, c, a),
		"a ((b c)) a": seq(a, b, c, a),
		"a|b":         alt(a, b),
		"a | b | c":   alt(a, b, c),
		"a | (b | c)": alt(a, b, c),
		"(a | b) | c": alt(a, b, c),
		"((a|(b|c)))": alt(a, b, c),
		"a b | c":     alt(seq(a, b), c),
		"a | b c":     alt(a, seq(b, c)),
		"(a b) | c":   alt(seq(a, b), c),
		"a (b | c)":   seq(a, alt(b, c)),
		"(a | b) c":   seq(alt(a, b), c),
		"(a|b)(a|c)":  seq(alt(a, b), alt(a, c)),
		"(a|b c)|a":   alt(a, seq(b, c), a),
		"a (b|(a c))": seq(a, alt(b, seq(a, c))),

		"a*":         many(0, -1, a),
		"a *":        many(0, -1, a),
		"a+":         many(1, -1, a),
		"a?":         many(0, 1, a),
		"(a)*":       many(0, -1, a),
		"(a*)":       many(0, -1, a),
		"(a*)*":      many(0, -1, many(0, -1, a)),
		"((a*))+":    many(1, -1, many(0, -1, a)),
		"a*b":        seq(many(0, -1, a), b),
		"a*(b)":      seq(many(0, -1, a), b),
		"a b*":       seq(a, many(0, -1, b)),
		"(a b)*":     many(0, -1, seq(a, b)),
		"(a (b c))*": many(0, -1, seq(a, b, c)),
		"a|b*":       alt(a, many(0, -1, b)),
		"(a|b)*":     many(0, -1, alt(a, b)),
		"((a|b))*":   many(0, -1, alt(a, b)),
		"(a b)* c":   seq(many(0, -1, seq(a, b)), c),

		"a{2}":            many(2, 2, a),
		"a{2,2}":          many(2, 2, a),
		"a{2,}":           many(2, -1, a),
		"a{2,3}":          many(2, 3, a),
		"a { 2 , 3 } ":    many(2, 3, a),
		"a{2 }":           many(2, 2, a),
		"a{ 2,}":          many(2, -1, a),
		"a{2, }":          many(2, -1, a),
		"a{0,1}":          many(0, 1, a),
		"a{0,2}":          many(0, 2, a),
		"a{1,2}":          many(1, 2, a),
		"a{0,}":           many(0, -1, a),
		"a{1,}":           many(1, -1, a),
		"a{10}":           many(10, 10, a),
		"a{16}":           many(16, 16, a),
		"a{16,}":          many(16, -1, a),
		"a{0,16}":         many(0, 16, a),
		"(a{2}){3}":       many(3, 3, many(2, 2, a)),
		"(a | b){3,}":     many(3, -1, alt(a, b)),
		"(a b)? | c{2}":   alt(many(0, 1, seq(a, b)), many(2, 2, c)),
		"a{2}b{3}|c{4}":   alt(seq(many(2, 2, a), many(3, 3, b)), many(4, 4, c)),
		"a{12}b{12}":      seq(many(12, 12, a), many(12, 12, b)),
		"(a{2}b{2}){2}":   many(2, 2, seq(many(2, 2, a), many(2, 2, b))),
		"a a a a a a a a": seq(a, a, a, a, a, a, a, a),
	} {
		e, at, err := expr.Parse(s)
		if !expr.Same(e, want) || at != 0 || err != api.OK {
			t.Errorf("Parse(%q) = %v at %d, error %d, want %v", s, e, at, err, want)
		}
	}
}

func TestParseOfNoText(t *testing.T) {
	for s, want := range map[string]int{
		// At the beginning.
		"P": 0, "1": 0, "2": 0, "*": 0, "+": 0, "?": 0, "|": 0, ")": 0, "{": 0, "}": 0, ",": 0, "{2}": 0,
		"| p": 0, "*p": 0, ")p": 0, "\x00": 0, "\t": 0, "\n": 0, "\xff": 0, "\u00e4": 0, "-": 0, "[p]": 0,
		" P": 1, "   *": 3, " \t": 1,
		// Within, and at the end.
		"pP": 1, "p1": 1, "p 1": 2, "p)": 1, "p )": 2, "(p))": 3, "p}": 1, "p,": 1, "p, q": 1, "p-q": 1, "p\tq": 1,
		"p\x00": 1, "p\xff": 1, "p\u00e4": 1, "p | P": 4, "p || q": 3, "p | | q": 4, "p | *": 4, "p | )": 4, "(p | )": 5,
		"(p | ) q": 5, "p q R": 4, "p q )": 4, "p q r P s": 6,
		// Something is missing at the end.
		"p |": 3, "p | ": 4, "p |  ": 5, "(": 1, "((": 2, "( ": 2, "(p": 2, "(p ": 3, "(p q": 4, "((p)": 4, "(p |": 4,
		"p (": 3, "p | (": 5, "(p*": 3, "p{": 2, "p{ ": 3, "p{2": 3, "p{2 ": 4, "p{2,": 4, "p{2, ": 5, "p{2,3": 5, "p{2,3 ": 6,
		"p{0": 3, "p{1": 3, "p{0,0": 5, "p{1,1": 5, "p{3,2": 5, "p{3,2 ": 6, "(p{2}": 5,
		// Brackets around nothing.
		"()": 1, "( )": 2, "p ()": 3, "()*": 1, "(())": 2, "p | ()": 5, "(p ())": 4,
		// Two signs behind.
		"p**": 2, "p*+": 2, "p* *": 3, "p??": 2, "p+{2}": 2, "p{2}*": 4, "p{2}{3}": 4, "p{2} {3}": 5, "(p*)**": 5, "p *+ q": 3, "p|*": 2,
		// In braces.
		"p{}": 2, "p{,3}": 2, "p{,}": 2, "p{ }": 3, "p{x}": 2, "p{2x}": 3, "p{2 3}": 4, "p{2;3}": 3, "p{-1}": 2, "p{+1}": 2,
		"p{2,3,4}": 5, "p{2,,3}": 4, "p{2,x}": 4, "p{2,3 4}": 6, "p{2,3x}": 5, "p{2,-1}": 4, "p{2)": 3, "p{2|3}": 3, "p{{2}}": 2, "p{2*}": 3,
		"p{2}}": 4, "p{(2)}": 2, "p{3,2x}": 5, "p{0,0x}": 5, "p{1 x": 4,
		// A name that may not be.
		name17: 0, " " + name17: 1, "p " + name17: 2, "p|" + name17 + "*": 2, "(" + name17: 1, name17 + "P": 0, name17 + ")": 0,
		name16 + "P": 16, name16 + ")": 16, strings.Repeat("n", 1024): 0,
		// A number that may not be.
		"p{00}": 2, "p{02}": 2, "p{ 02}": 3, "p{00,1}": 2, "p{2,03}": 4, "p{2, 00}": 5, "p{007": 2, "p{2,00": 4, "p{01": 2, "p{3,02}": 4, "p{012345678901234567890123}": 2,
		// Numbers that do not go with one another.
		"p{0}": 1, "p{0,0}": 1, "p{1}": 1, "p{1,1}": 1, "p{3,2}": 1, "p{1,0}": 1, "p{2,0}": 1, "p{2,1}": 1, "p{16,15}": 1, "p{17,16}": 1, "p{10,9}": 1,
		"p { 0 }": 2, " p {3,2}": 3, "p q{1}": 3, "(p | q){1,1}": 7, "p{1}*": 1, "p{1})": 1, "p{3,2} P": 1, "P{3,2}": 0, "p | q{3,2} |": 5, "p{0}q{0}": 1, "p{2}q{0}": 5,
		"p{1048576,1048575}": 1, "p{1048577,1048575}": 1, "p{99999999999999999999999999,7}": 1,
	} {
		e, at, err := expr.Parse(s)
		if !zero(e) || at != want || err != api.ErrBad {
			t.Errorf("Parse(%q) = %v at %d, error %d, want %d", s, e, at, err, want)
		}
	}
}

func TestParseOfEachByte(t *testing.T) {
	for c := range 256 {
		sign := string([]byte{byte(c)})
		for _, x := range []struct{ ahead, behind, may string }{
			{"", "", "( abcdefghijklmnopqrstuvwxyz"},
			{"p", "q", "| *+?{(abcdefghijklmnopqrstuvwxyz"},
			{"(p", "", "|) *+?{(abcdefghijklmnopqrstuvwxyz"},
			{"p|", "q", " (abcdefghijklmnopqrstuvwxyz"},
			{"p*", "q", " |(abcdefghijklmnopqrstuvwxyz"},
			{"p{", "", " 0123456789"},
			{"p{2", "", " ,}0123456789"},
			{"p{2,", "", " }0123456789"},
			{"p{2,3", "", " }0123456789"},
		} {
			s := x.ahead + sign + x.behind
			_, at, err := expr.Parse(s)
			if bad := err == api.ErrBad && at == len(x.ahead); bad == strings.Contains(x.may, sign) {
				t.Errorf("Parse(%q): at %d, error %d", s, at, err)
			}
		}
	}
}

func TestParseOfTooMuch(t *testing.T) {
	blanks := strings.Repeat(" ", 1023)
	many16 := strings.Repeat("(", 14) + "p" + strings.Repeat("*)", 14) + "*"
	for s, ok := range map[string]bool{
		blanks + " ":                       true,
		blanks + "  ":                      false,
		blanks + "p":                       true,
		blanks + " p":                      false,
		blanks + "  P":                     false,
		strings.Repeat("(", 1025):          false,
		strings.Repeat(" ", 1<<20):         false,
		"p{16}":                            true,
		"p{17}":                            false,
		"p{17,}":                           false,
		"p{0,17}":                          false,
		"p{2,1048576}":                     false,
		"p{2,1048577}":                     false,
		"p{1048576,1048577}":               false,
		"p{1048577,1048576}":               false,
		"p{1048577}":                       false,
		"p{99999999999999999999999999}":    false,
		"p{18446744073709551618}":          false, // 2^64 and 2
		"p{4294967298}":                    false, // 2^32 and 2
		"p{2,18446744073709551618}":        false,
		"p{99999999999999999999,88888888}": false,
		strings.Repeat("p ", 24):           true,
		strings.Repeat("p ", 25):           false,
		strings.Repeat("p|", 24) + "p":     false,
		"(p q){12}":                        true,
		"(p q){13}":                        false,
		many16:                             true,
		"(" + many16 + ")":                 true,
		"(" + many16 + ")*":                false,
		"p (" + many16 + ")":               false,
	} {
		e, at, err := expr.Parse(s)
		if ok && (zero(e) || at != 0 || err != api.OK) {
			t.Errorf("Parse(%q): at %d, error %d", s, at, err)
		}
		if !ok && (!zero(e) || at != -1 || err != api.ErrLong) {
			t.Errorf("Parse(%q) = %v at %d, error %d", s, e, at, err)
		}
	}
	for s, want := range map[string]int{strings.Repeat("(", 1024): 1024, blanks + "(": 1024, blanks + "P": 1023, "p{17} P": 6, strings.Repeat("p ", 30) + ")": 60} {
		if _, at, err := expr.Parse(s); at != want || err != api.ErrBad {
			t.Errorf("Parse(%q): at %d, error %d", s, at, err)
		}
	}
}

func TestText(t *testing.T) {
	for want, e := range map[string]api.Expr{
		"":                  seq(),
		"p":                 p,
		"a b c":             seq(a, b, c),
		"a | b | c":         alt(a, b, c),
		"a*":                many(0, -1, a),
		"a+":                many(1, -1, a),
		"a?":                many(0, 1, a),
		"a{2}":              many(2, 2, a),
		"a{16}":             many(16, 16, a),
		"a{2,}":             many(2, -1, a),
		"a{16,}":            many(16, -1, a),
		"a{0,2}":            many(0, 2, a),
		"a{1,2}":            many(1, 2, a),
		"a{2,3}":            many(2, 3, a),
		"a{10,12}":          many(10, 12, a),
		"(a b)*":            many(0, -1, seq(a, b)),
		"(a | b)+":          many(1, -1, alt(a, b)),
		"(a*)?":             many(0, 1, many(0, -1, a)),
		"((a*){2}){2,3}":    many(2, 3, many(2, 2, many(0, -1, a))),
		"a (b | c)":         seq(a, alt(b, c)),
		"(a | b) c*":        seq(alt(a, b), many(0, -1, c)),
		"(a | b)* c":        seq(many(0, -1, alt(a, b)), c),
		"a b | c*":          alt(seq(a, b), many(0, -1, c)),
		"a | (b | c) a":     alt(a, seq(alt(b, c), a)),
		"(a b | c)*":        many(0, -1, alt(seq(a, b), c)),
		"p+ (h | li{2,3})*": seq(many(1, -1, p), many(0, -1, alt(name("h"), many(2, 3, name("li"))))),
	} {
		if s, err := expr.Text(e); s != want || err != api.OK {
			t.Errorf("Text(%v) = %q, error %d, want %q", e, s, err, want)
		}
	}
	for _, e := range []api.Expr{{}, name(""), seq(p), alt(p), many(1, 1, p), many(0, -1), many(0, -1, seq()), {Kind: api.ExprName, Name: "p", Min: 1}} {
		if s, err := expr.Text(e); s != "" || err != api.ErrArg {
			t.Errorf("Text(%v) = %q, error %d", e, s, err)
		}
	}
}

// fault goes over s with a machine that knows only what may come next, and how many brackets are open: it tells where s can't go on, -1 if it can be read.
func fault(s string) int {
	if strings.Trim(s, " ") == "" {
		return -1
	}
	steps := map[string]string{
		"want name": "had", "want (": "want",
		"had name": "had", "had (": "want", "had |": "want", "had )": "had", "had sign": "signed", "had {": "low",
		"signed name": "had", "signed (": "want", "signed |": "want", "signed )": "had",
		"low number": "comma", "comma ,": "high", "comma }": "signed", "high number": "end", "high }": "signed", "end }": "signed",
	}
	state, open, brace, numbers := "want", 0, 0, []int{}
	for _, x := range regexp.MustCompile(`(?s)[a-z]+|[0-9]+|[*+?]|[^ ]`).FindAllStringIndex(s, -1) {
		token := s[x[0]:x[1]]
		class := token
		switch token[0] {
		case '*', '+', '?':
			class = "sign"
		case '0', '1', '2', '3', '4', '5', '6', '7', '8', '9':
			class = "number"
		case '(':
			open++
		case ')':
			open--
		case '{':
			brace, numbers = x[0], nil
		}
		if token[0] >= 'a' && token[0] <= 'z' {
			class = "name"
		}
		last := state
		state = steps[last+" "+class]
		if state == "" || open < 0 || class == "name" && len(token) > 16 || class == "number" && token != "0" && token[0] == '0' {
			return x[0]
		}
		if class == "number" {
			n, err := strconv.Atoi(token)
			if err != nil || n > 1<<20 {
				n = 1 << 20
			}
			numbers = append(numbers, n)
		}
		if class == "}" && last != "high" {
			n, m := numbers[0], numbers[len(numbers)-1]
			if m < n || m == 0 || n == 1 && m == 1 {
				return brace
			}
		}
	}
	if open > 0 || state != "had" && state != "signed" {
		return len(s)
	}
	return -1
}

func heldAgainstFault(t *testing.T, s string) {
	t.Helper()
	e, at, err := expr.Parse(s)
	want := fault(s)
	switch {
	case want >= 0 && (err != api.ErrBad || at != want || !zero(e)):
		t.Fatalf("Parse(%q) = %v at %d, error %d, want %d", s, e, at, err, want)
	case want < 0 && err == api.OK && (at != 0 || expr.Check(e) != api.OK):
		t.Fatalf("Parse(%q) = %v at %d, error %d", s, e, at, expr.Check(e))
	case want < 0 && err != api.OK && (err != api.ErrLong || at != -1 || !zero(e)):
		t.Fatalf("Parse(%q) = %v at %d, error %d", s, e, at, err)
	}
}

// words are all texts of at most n of those parts.
func words(parts string, n int, f func(string)) {
	var more func(s string, n int)
	more = func(s string, n int) {
		f(s)
		if n > 0 {
			for _, c := range parts {
				more(s+string(c), n-1)
			}
		}
	}
	more("", n)
}

func TestParseOfAllShortTexts(t *testing.T) {
	words("p |*{2}()P", 5, func(s string) { heldAgainstFault(t, s) })
	words(" 0123,}p", 5, func(s string) { heldAgainstFault(t, "p{"+s) })
	words("p|()*", 6, func(s string) { heldAgainstFault(t, s) })
}

// A fault that stands within a text stays where it is, whatever follows; one that something is missing at the end goes away with it.
func TestFaultsStay(t *testing.T) {
	words("p |*{2}()", 5, func(s string) {
		_, at, err := expr.Parse(s)
		if err != api.ErrBad {
			return
		}
		if at == len(s) {
			closed := slices.ContainsFunc([]string{"", "p", "2}", "}"}, func(end string) bool {
				_, _, err := expr.Parse(s + end + strings.Repeat(")", strings.Count(s, "(")-strings.Count(s, ")")))
				return err != api.ErrBad
			})
			if !closed {
				t.Fatalf("Parse(%q): at %d, though nothing goes on from there", s, at)
			}
			return
		}
		for _, end := range []string{"p", " ", "|", "*", "{", "2", ",", "}", "(", ")"} {
			if _, again, err := expr.Parse(s + end); again != at || err != api.ErrBad {
				t.Fatalf("Parse(%q): at %d, error %d; of %q at %d", s+end, again, err, s, at)
			}
		}
	})
}

// What is answered must be in memory of its own: no list may stand in another one's, nor in its spare room.
func TestParseSharesNothing(t *testing.T) {
	seen := map[*api.Expr]bool{}
	var look func(e api.Expr)
	look = func(e api.Expr) {
		room := e.Kids[:cap(e.Kids)]
		for i := range room {
			if seen[&room[i]] {
				t.Fatal("two lists share memory")
			}
			seen[&room[i]] = true
		}
		for _, kid := range e.Kids {
			look(kid)
		}
	}
	for range 2 {
		e, _, _ := expr.Parse("(a b) c | (a | b) | ((a b)* c (a | b | c)) | (a (b c) a)? | a")
		look(e)
	}
}

// P3.3

// bracketed is e as a text, with brackets around everything.
func bracketed(e api.Expr) string {
	if e.Kind == api.ExprName {
		return e.Name
	}
	if e.Kind == api.ExprSeq && len(e.Kids) == 0 {
		return ""
	}
	var parts []string
	for _, kid := range e.Kids {
		parts = append(parts, "("+bracketed(kid)+")")
	}
	switch e.Kind {
	case api.ExprSeq:
		return strings.Join(parts, "")
	case api.ExprAlt:
		return strings.Join(parts, "|")
	}
	if e.Max == -1 {
		return strings.Join(parts, "") + "{" + strconv.Itoa(e.Min) + ",}"
	}
	return strings.Join(parts, "") + "{" + strconv.Itoa(e.Min) + "," + strconv.Itoa(e.Max) + "}"
}

// backAndForth holds e, whose kinds have only fields of theirs, against its texts: just what may be is read again as it was.
func backAndForth(t *testing.T, e api.Expr) {
	t.Helper()
	read, _, err := expr.Parse(bracketed(e))
	may := expr.Check(e) == api.OK
	if same := err == api.OK && expr.Same(read, e); same != may {
		t.Fatalf("Parse(%q) = %v, error %d; Check(%v) is %d", bracketed(e), read, err, e, expr.Check(e))
	}
	s, err := expr.Text(e)
	if err != expr.Check(e) || err != api.OK && s != "" {
		t.Fatalf("Text(%v) = %q, error %d", e, s, err)
	}
	if may && len(s) <= api.MaxExpr {
		reads(t, e, s)
		fewestBrackets(t, e, s)
	}
}

func reads(t *testing.T, e api.Expr, s string) {
	t.Helper()
	if read, at, err := expr.Parse(s); err != api.OK || at != 0 || !expr.Same(read, e) {
		t.Fatalf("Parse(%q) = %v at %d, error %d, want %v", s, read, at, err, e)
	}
}

// fewestBrackets sees to it that s is another text without any pair of its brackets.
func fewestBrackets(t *testing.T, e api.Expr, s string) {
	t.Helper()
	var open []int
	for i := range s {
		switch s[i] {
		case '(':
			open = append(open, i)
		case ')':
			start := open[len(open)-1]
			open = open[:len(open)-1]
			without := s[:start] + s[start+1:i] + s[i+1:]
			if read, _, err := expr.Parse(without); err == api.OK && expr.Same(read, e) {
				t.Fatalf("Text(%v) = %q: brackets at %d are needless", e, s, start)
			}
		}
	}
}

// few are all expressions out of those one level below, lists of at most two.
func few(kids []api.Expr) []api.Expr {
	all := []api.Expr{a, name(""), seq(), alt(), many(0, -1)}
	for i, one := range kids {
		all = append(all, seq(one), alt(one))
		for _, pair := range [][2]int{{0, -1}, {0, 1}, {1, 1}, {2, 2}, {3, 2}, {0, 17}} {
			all = append(all, many(pair[0], pair[1], one))
		}
		for _, two := range kids[:min(i+9, len(kids))] {
			all = append(all, seq(one, two), alt(one, two), many(0, -1, one, two))
		}
	}
	return all
}

func TestTextsAreReadAgain(t *testing.T) {
	one := few(nil)
	for _, e := range few(few(one)) {
		backAndForth(t, e)
	}
}

// anything makes an expression by chance, seldom one that may not be.
func anything(r *rand.Rand, deep int) api.Expr {
	switch kind := r.Intn(8); {
	case deep <= 1 || kind < 2:
		return name(strings.Repeat(string(rune('a'+r.Intn(3))), 1+r.Intn(4)))
	case kind < 4:
		return seq(somethings(r, deep)...)
	case kind < 6:
		return alt(somethings(r, deep)...)
	}
	low := r.Intn(4)
	return many(low, []int{-1, low, low + 1, 1 + r.Intn(3)}[r.Intn(4)], anything(r, deep-1))
}

func somethings(r *rand.Rand, deep int) []api.Expr {
	var l []api.Expr
	for range 2 + r.Intn(2) {
		l = append(l, anything(r, deep-1))
	}
	return l
}

func TestTextsByChanceAreReadAgain(t *testing.T) {
	r := rand.New(rand.NewSource(3))
	may := 0
	for range 30000 {
		e := anything(r, 1+r.Intn(6))
		backAndForth(t, e)
		if s, err := expr.Text(e); err == api.OK {
			may++
			reads(t, e, spaced(r, s))
		}
	}
	if may < 3000 {
		t.Errorf("only %d of them may be", may)
	}
}

// spaced is s with blanks where there may be any.
func spaced(r *rand.Rand, s string) string {
	return regexp.MustCompile(`[a-z]+|[0-9]+|.`).ReplaceAllStringFunc(s, func(token string) string {
		return strings.Repeat(" ", r.Intn(3)) + token + strings.Repeat(" ", r.Intn(3))
	})
}

// lengthy is an expression that may be, whose text has n bytes, from 1,007 to 1,367.
func lengthy(n int) api.Expr {
	var kids []api.Expr
	left := n - 1007
	for range 24 {
		more := min(left, 15)
		left -= more
		e := name(strings.Repeat("x", 1+more))
		for range 14 {
			e = many(0, 1, e)
		}
		kids = append(kids, e)
	}
	return seq(kids...)
}

func TestTextsAboveMaxExpr(t *testing.T) {
	for n := 1007; n <= 1367; n++ {
		e := lengthy(n)
		s, err := expr.Text(e)
		if err != api.OK || len(s) != n {
			t.Fatalf("a text of %d bytes has %d: error %d", n, len(s), err)
		}
		read, at, err := expr.Parse(s)
		if n <= 1024 && (err != api.OK || at != 0 || !expr.Same(read, e)) {
			t.Errorf("a text of %d bytes: at %d, error %d", n, at, err)
		}
		if n > 1024 && (err != api.ErrLong || at != -1 || !zero(read)) {
			t.Errorf("a text of %d bytes: at %d, error %d", n, at, err)
		}
	}
}

func FuzzParse(f *testing.F) {
	for _, s := range []string{"", "p+ (h | li{2,3})*", "((p))", "p |", "p)", "p{3,2}", "p{0}", "p{02}", name17, "a (b | c){2,} d?", "\x00\xff"} {
		f.Add(s)
	}
	f.Fuzz(func(t *testing.T, s string) {
		e, at, err := expr.Parse(s)
		if len(s) > api.MaxExpr {
			if err != api.ErrLong || at != -1 {
				t.Fatalf("Parse(%q): at %d, error %d", s, at, err)
			}
			return
		}
		heldAgainstFault(t, s)
		if err == api.OK {
			backAndForth(t, e)
		}
	})
}
