package match_test

import (
	"math/rand"
	"slices"
	"strconv"
	"strings"
	"testing"

	"copydesk/api"
	"copydesk/expr"
	"copydesk/match"
)

var block = []api.Group{group("block", "h", "p")}

// made is the machine of an expression's text.
func made(t *testing.T, s string, l ...api.Group) api.Auto {
	t.Helper()
	e, _, err := expr.Parse(s)
	if err != api.OK {
		t.Fatalf("Parse(%q): error %d", s, err)
	}
	a, err := match.Make(e, l)
	if err != api.OK {
		t.Fatalf("Make of %q: error %d", s, err)
	}
	return a
}

// P4.1

func TestMakeOfExpressionsThatMayNotBe(t *testing.T) {
	p := api.Expr{Kind: api.ExprName, Name: "p"}
	wrong, long := []api.Group{group("a")}, []api.Group{group(name17, "p")}
	for _, c := range []struct {
		what string
		e    api.Expr
		want api.Errno
	}{
		{"none at all", api.Expr{}, api.ErrArg},
		{"no name", api.Expr{Kind: api.ExprName}, api.ErrArg},
		{"a row of one", api.Expr{Kind: api.ExprSeq, Kids: []api.Expr{p}}, api.ErrArg},
		{"a choice of none", api.Expr{Kind: api.ExprAlt}, api.ErrArg},
		{"many of none", api.Expr{Kind: api.ExprMany, Max: -1}, api.ErrArg},
		{"never", api.Expr{Kind: api.ExprMany, Kids: []api.Expr{p}}, api.ErrArg},
		{"once", api.Expr{Kind: api.ExprMany, Min: 1, Max: 1, Kids: []api.Expr{p}}, api.ErrArg},
		{"2 to 1", api.Expr{Kind: api.ExprMany, Min: 2, Max: 1, Kids: []api.Expr{p}}, api.ErrArg},
		{"a kind of 5", api.Expr{Kind: 5, Name: "p"}, api.ErrArg},
		{"a kind of -1", api.Expr{Kind: -1, Kids: []api.Expr{p, p}}, api.ErrArg},
		{"a name of 17", api.Expr{Kind: api.ExprName, Name: name17}, api.ErrLong},
		{"17 times", api.Expr{Kind: api.ExprMany, Min: 17, Max: 17, Kids: []api.Expr{p}}, api.ErrLong},
		{"-2 times", api.Expr{Kind: api.ExprMany, Min: -2, Max: -1, Kids: []api.Expr{p}}, api.ErrLong},
		{"size 25", api.Expr{Kind: api.ExprSeq, Kids: slices.Repeat([]api.Expr{p}, 25)}, api.ErrLong},
	} {
		for _, l := range [][]api.Group{nil, block, wrong, long} {
			if a, err := match.Make(c.e, l); err != c.want || len(a.States) > 0 {
				t.Errorf("%s, groups %v: %v, error %d, want %d", c.what, l, a, err, c.want)
			}
		}
	}
	for want, l := range map[api.Errno][]api.Group{api.ErrArg: wrong, api.ErrLong: long} {
		if a, err := match.Make(p, l); err != want || len(a.States) > 0 {
			t.Errorf("groups %v: %v, error %d, want %d", l, a, err, want)
		}
	}
}

func TestMake(t *testing.T) {
	for _, c := range []struct{ text, want string }{
		{"", "0: ends"},
		{"   ", "0: ends"},
		{"p", "0: p 1; 1: ends"},
		{"block", "0: h 1, p 1; 1: ends"},
		{"p+", "0: p 1; 1: ends, p 1"},
		{"p*", "0: ends, p 0"},
		{"p?", "0: ends, p 1; 1: ends"},
		{"block*", "0: ends, h 0, p 0"},
		{"(p | h)*", "0: ends, h 0, p 0"},
		{"h* (p h*)*", "0: ends, h 0, p 0"},
		{"block+ li?", "0: h 1, p 1; 1: ends, h 1, li 2, p 1; 2: ends"},
		{"p block*", "0: p 1; 1: ends, h 1, p 1"},
		{"h p q", "0: h 1; 1: p 2; 2: q 3; 3: ends"},
		{"h | p | q", "0: h 1, p 1, q 1; 1: ends"},
		{"p h | p q", "0: p 1; 1: h 2, q 2; 2: ends"},
		{"p h | q h", "0: p 1, q 1; 1: h 2; 2: ends"},
		{"block p", "0: h 1, p 1; 1: p 2; 2: ends"},
		{"(p h)*", "0: ends, p 1; 1: h 0"},
		{"(p h)+", "0: p 1; 1: h 2; 2: ends, p 1"},
		{"(p* h*)*", "0: ends, h 0, p 0"},
		{"(p? h?)?", "0: ends, h 1, p 2; 1: ends; 2: ends, h 1"},
		{"p* p", "0: p 1; 1: ends, p 1"},
		{"p? p", "0: p 1; 1: ends, p 2; 2: ends"},
		{"(p p)* (p p p)*", "0: ends, p 1; 1: p 2; 2: ends, p 2"},
		{"block* h", "0: h 1, p 0; 1: ends, h 1, p 0"},
		{"p+ (h | li{2,3})*", "0: p 1; 1: ends, h 2, li 3, p 1; 2: ends, h 2, li 3; 3: li 4; 4: ends, h 2, li 4"},
		{"(a b | c d)?", "0: ends, a 1, c 2; 1: b 3; 2: d 3; 3: ends"},
		{name16 + " p", "0: " + name16 + " 1; 1: p 2; 2: ends"},
	} {
		a := made(t, c.text, block...)
		if told(a) != c.want {
			t.Errorf("%q: %s, want %s", c.text, told(a), c.want)
		}
		if !match.Same(a, machine(c.want)) {
			t.Errorf("%q is not the same as %s", c.text, c.want)
		}
	}
}

func TestMakeWithGroups(t *testing.T) {
	several := []api.Group{group("b", "p", "q"), group("a", "h", "p")}
	chain := []api.Group{group("a", "b"), group("b", "c"), group("c", "c", "d")}
	crossed := []api.Group{group("x", "a", "d"), group("y", "b", "c")}
	for _, c := range []struct {
		text string
		l    []api.Group
		want string
	}{
		{"block", nil, "0: block 1; 1: ends"},
		{"block", several, "0: block 1; 1: ends"},
		{"p", several, "0: p 1; 1: ends"},
		{"p | block", block, "0: h 1, p 1; 1: ends"},
		{"block | q", block, "0: h 1, p 1, q 1; 1: ends"},
		{"", block, "0: ends"},
		{"a b", several, "0: h 1, p 1; 1: p 2, q 2; 2: ends"},
		{"a | b", several, "0: h 1, p 1, q 1; 1: ends"},
		{"a* b", several, "0: h 0, p 1, q 2; 1: ends, h 0, p 1, q 2; 2: ends"},
		{"a b", chain, "0: b 1; 1: c 2; 2: ends"},
		{"c c", chain, "0: c 1, d 1; 1: c 2, d 2; 2: ends"},
		{"x p | y q", crossed, "0: a 1, b 2, c 2, d 1; 1: p 3; 2: q 3; 3: ends"},
		{"y q | x p", crossed, "0: a 1, b 2, c 2, d 1; 1: p 3; 2: q 3; 3: ends"},
		{"(x | y)*", crossed, "0: ends, a 0, b 0, c 0, d 0"},
		{name16, []api.Group{group(name16, "m", name16)}, "0: m 1, " + name16 + " 1; 1: ends"},
	} {
		if a := made(t, c.text, c.l...); told(a) != c.want {
			t.Errorf("%q, groups %v: %s, want %s", c.text, c.l, told(a), c.want)
		}
	}
}

// States are numbered by the rows that lead there, wherever their names stand in the text.
func TestNumbersOfStates(t *testing.T) {
	for s, want := range map[string]string{
		"q a | p b":             "0: p 1, q 2; 1: b 3; 2: a 3; 3: ends",
		"p b | q a":             "0: p 1, q 2; 1: b 3; 2: a 3; 3: ends",
		"z | a b c":             "0: a 1, z 2; 1: b 3; 2: ends; 3: c 2",
		"z y x | y z | a":       "0: a 1, y 2, z 3; 1: ends; 2: z 1; 3: y 4; 4: x 1",
		"b (d | c e) | a f":     "0: a 1, b 2; 1: f 3; 2: c 4, d 3; 3: ends; 4: e 3",
		"ab c | b d | a e":      "0: a 1, ab 2, b 3; 1: e 4; 2: c 4; 3: d 4; 4: ends",
		"c (a b)? | a (b | c)":  "0: a 1, c 2; 1: b 3, c 3; 2: ends, a 4; 3: ends; 4: b 3",
		"(c a | b a | a a a) d": "0: a 1, b 2, c 2; 1: a 2; 2: a 3; 3: d 4; 4: ends",
	} {
		if a := made(t, s); told(a) != want {
			t.Errorf("%q: %s, want %s", s, told(a), want)
		}
	}
}

// chain is the machine of one thing that may stand from low to high times; -1: as often as one likes.
func chain(low, high int, types ...string) string {
	last := max(low, high)
	var states []string
	for i := range last + 1 {
		var items []string
		if i >= low {
			items = append(items, "ends")
		}
		for _, typ := range types {
			if i < last {
				items = append(items, typ+" "+strconv.Itoa(i+1))
			} else if high == -1 {
				items = append(items, typ+" "+strconv.Itoa(i))
			}
		}
		states = append(states, strings.TrimSpace(strconv.Itoa(i)+": "+strings.Join(items, ", ")))
	}
	return strings.Join(states, "; ")
}

func TestTimes(t *testing.T) {
	for low := range 17 {
		for high := -1; high <= 16; high++ {
			if high >= 0 && high < max(low, 1) || low == 1 && high == 1 {
				continue
			}
			braces := "{" + strconv.Itoa(low) + "," + strconv.Itoa(high) + "}"
			switch high {
			case low:
				braces = "{" + strconv.Itoa(low) + "}"
			case -1:
				braces = "{" + strconv.Itoa(low) + ",}"
			}
			if a, want := made(t, "q"+braces), chain(low, high, "q"); told(a) != want {
				t.Errorf("q%s: %s, want %s", braces, told(a), want)
			}
			if a, want := made(t, "block"+braces, block...), chain(low, high, "h", "p"); told(a) != want {
				t.Errorf("block%s: %s, want %s", braces, told(a), want)
			}
		}
	}
}

func TestTimesOfTimes(t *testing.T) {
	for s, want := range map[string]string{
		"(p{2}){3}":          chain(6, 6, "p"),
		"(p{2}){12}":         chain(24, 24, "p"),
		"(p{2,3}){2}":        chain(4, 6, "p"),
		"(p?){16}":           chain(0, 16, "p"),
		"(p?){16,}":          chain(0, -1, "p"),
		"(p*){3}":            chain(0, -1, "p"),
		"(p+){3}":            chain(3, -1, "p"),
		"(p{3,})?":           "0: ends, p 1; 1: p 2; 2: p 3; 3: ends, p 3",
		"(p{2,3}){0,2}":      "0: ends, p 1; 1: p 2; 2: ends, p 3; 3: ends, p 4; 4: ends, p 5; 5: ends, p 6; 6: ends",
		"(p{2})*":            "0: ends, p 1; 1: p 0",
		"p{16} p{8}":         chain(24, 24, "p"),
		"p{16,} p{7}":        chain(23, -1, "p"),
		"p{0,16} p{0,8}":     chain(0, 24, "p"),
		"p{0,8} p{8,16}":     chain(8, 24, "p"),
		"(p | p p){1,2}":     chain(1, 4, "p"),
		"(p{3})* | (p{2})*":  "0: ends, p 1; 1: p 2; 2: ends, p 3; 3: ends, p 4; 4: ends, p 5; 5: p 0",
		"((p{3})* (p{5})*)?": "0: ends, p 1; 1: p 2; 2: p 3; 3: ends, p 4; 4: p 5; 5: ends, p 6; 6: ends, p 7; 7: p 8; 8: ends, p 8",
	} {
		if a := made(t, s); told(a) != want {
			t.Errorf("%q: %s, want %s", s, told(a), want)
		}
	}
}

// Many sets of places, of which each is a state of its own, or all are one.
func TestManyStates(t *testing.T) {
	a := made(t, "block* h block{10}", block...)
	if len(a.States) != 2048 {
		t.Errorf("%d states, want 2048", len(a.States))
	}
	shaped(t, a, false)
	for s, n := range map[string]int{"block* (h block{12})?": 1, "block{12} h block*": 14, "block{0,12} h block*": 14, "(block{3})* | (block{5})* | (block{7})* | (block{8})*": 840} {
		if a := made(t, s, block...); len(a.States) != n {
			t.Errorf("%q: %d states, want %d", s, len(a.States), n)
		}
	}
}

// P4.4: machines against what may still come behind a row, told by the expression itself.

// rest is what must still come: these, one behind the other.
type rest []api.Expr

func (l rest) key() string {
	var b strings.Builder
	for _, e := range l {
		b.WriteString("(" + strconv.Itoa(e.Kind) + e.Name + strconv.Itoa(e.Min) + "," + strconv.Itoa(e.Max) + rest(e.Kids).key() + ")")
	}
	return b.String()
}

// canBeNothing tells whether nothing needs to come.
func (l rest) canBeNothing() bool {
	return !slices.ContainsFunc(l, func(e api.Expr) bool { return !canBeNothing(e) })
}

func canBeNothing(e api.Expr) bool {
	switch e.Kind {
	case api.ExprSeq:
		return rest(e.Kids).canBeNothing()
	case api.ExprAlt:
		return slices.ContainsFunc(e.Kids, canBeNothing)
	case api.ExprMany:
		return e.Min == 0 || canBeNothing(e.Kids[0])
	}
	return false
}

// after are all rests that may come behind typ, where l came ahead of it.
func (l rest) after(typ string, groups []api.Group) []rest {
	var all []rest
	for i, e := range l {
		for _, r := range after(e, typ, groups) {
			all = append(all, append(slices.Clone(r), l[i+1:]...))
		}
		if !canBeNothing(e) {
			break
		}
	}
	return all
}

func after(e api.Expr, typ string, groups []api.Group) []rest {
	var all []rest
	switch e.Kind {
	case api.ExprName:
		types := []string{e.Name}
		for _, g := range groups {
			if g.Name == e.Name {
				types = g.Types
			}
		}
		if slices.Contains(types, typ) {
			all = append(all, nil)
		}
	case api.ExprSeq:
		return rest(e.Kids).after(typ, groups)
	case api.ExprAlt:
		for _, kid := range e.Kids {
			all = append(all, after(kid, typ, groups)...)
		}
	case api.ExprMany:
		for _, r := range after(e.Kids[0], typ, groups) {
			if e.Max == -1 {
				r = append(slices.Clone(r), api.Expr{Kind: e.Kind, Min: max(e.Min-1, 0), Max: -1, Kids: e.Kids})
			} else if e.Max > 1 {
				r = append(slices.Clone(r), api.Expr{Kind: e.Kind, Min: max(e.Min-1, 0), Max: e.Max - 1, Kids: e.Kids})
			}
			all = append(all, r)
		}
	}
	return all
}

// rests are several, any of which may come: rising, none twice.
func rests(l []rest) []rest {
	l = slices.Clone(l)
	slices.SortFunc(l, func(a, b rest) int { return strings.Compare(a.key(), b.key()) })
	return slices.CompactFunc(l, func(a, b rest) bool { return a.key() == b.key() })
}

// lets tells a row by which a lets in another than e does, or after which one of both can go on and the other can't; none, if they agree about all rows.
func lets(a api.Auto, e api.Expr, groups []api.Group) (string, bool) {
	types := append(expr.Names(e), "", "zz")
	for _, g := range groups {
		types = append(types, g.Types...)
	}
	for i := range a.States {
		types = append(types, match.Types(a, i)...)
	}
	slices.Sort(types)
	types = slices.Compact(types)
	type pair struct {
		state int
		left  []rest
		row   string
	}
	pairs := []pair{{0, []rest{{e}}, ""}}
	seen := map[string]bool{}
	for ; len(pairs) > 0; pairs = pairs[1:] {
		at := pairs[0]
		if a.States[at.state].Ends != slices.ContainsFunc(at.left, rest.canBeNothing) {
			return at.row, false
		}
		for _, typ := range types {
			var left []rest
			for _, l := range at.left {
				left = append(left, l.after(typ, groups)...)
			}
			left = rests(left)
			next := match.Next(a, at.state, typ)
			row := at.row + " " + typ
			if (next < 0) != (len(left) == 0) {
				return row, false
			}
			key := strconv.Itoa(next)
			for _, l := range left {
				key += "|" + l.key()
			}
			if next >= 0 && !seen[key] {
				seen[key] = true
				pairs = append(pairs, pair{next, left, row})
			}
		}
	}
	return "", true
}

// shaped sees to it that a is a machine that Make may answer: numbered as told, with rising edges, and from each state an end; and, if all is asked, no two states alike.
func shaped(t *testing.T, a api.Auto, all bool) {
	t.Helper()
	came := 1
	for i, state := range a.States {
		if i >= came {
			t.Fatalf("%s: no shorter or lesser row leads to state %d", told(a), i)
		}
		for k, e := range state.Edges {
			if k > 0 && state.Edges[k-1].Type >= e.Type || e.To < 0 || e.To > came || e.To >= len(a.States) {
				t.Fatalf("%s: edge %d of state %d", told(a), k, i)
			}
			came = max(came, e.To+1)
		}
	}
	ending := endings(a)
	for i := range a.States {
		if !ending[i] {
			t.Fatalf("%s: from state %d nothing can end", told(a), i)
		}
	}
	if all {
		apart(t, a)
	}
}

// endings tells from which states one comes to an end.
func endings(a api.Auto) []bool {
	l := make([]bool, len(a.States))
	for again := true; again; {
		again = false
		for i, state := range a.States {
			ends := state.Ends || slices.ContainsFunc(state.Edges, func(e api.Edge) bool { return l[e.To] })
			again = again || ends != l[i]
			l[i] = ends
		}
	}
	return l
}

// apart sees to it that any two states are told apart by a row that ends from one of them alone.
func apart(t *testing.T, a api.Auto) {
	t.Helper()
	differ := map[[2]int]bool{}
	for again := true; again; {
		again = false
		for x := range a.States {
			for y := range x {
				if !differ[[2]int{x, y}] && unlike(a, x, y, differ) {
					differ[[2]int{x, y}], again = true, true
				}
			}
		}
	}
	if n := len(a.States); len(differ) != n*(n-1)/2 {
		t.Fatalf("%s: two states are alike", told(a))
	}
}

// unlike tells whether x and y are told apart at once, or by one type and what is known to differ.
func unlike(a api.Auto, x, y int, differ map[[2]int]bool) bool {
	if a.States[x].Ends != a.States[y].Ends || !slices.Equal(match.Types(a, x), match.Types(a, y)) {
		return true
	}
	for _, typ := range match.Types(a, x) {
		i, k := match.Next(a, x, typ), match.Next(a, y, typ)
		if differ[[2]int{max(i, k), min(i, k)}] {
			return true
		}
	}
	return false
}

// asTold makes the machine of e, and holds it against the words.
func asTold(t *testing.T, e api.Expr, groups []api.Group) api.Auto {
	t.Helper()
	a, err := match.Make(e, groups)
	if err != api.OK {
		t.Fatalf("Make(%v, %v): error %d", e, groups, err)
	}
	shaped(t, a, true)
	if row, ok := lets(a, e, groups); !ok {
		t.Fatalf("Make(%v, %v) = %s: they differ about%s", e, groups, told(a), row)
	}
	return a
}

func TestMachinesOfTexts(t *testing.T) {
	for _, s := range []string{
		"", "p", "block", "p+", "block*", "(p | h)*", "h* (p h*)*", "p+ (h | li{2,3})*", "block+ li?", "p block*", "text*",
		"(a b? c*)+", "(a? b?)+ a", "(a | b)* a (a | b){3}", "((a b){2,3} | a{4,})*", "(a+ b+)+ a+", "(block p){2,}", "a{16} a{8}", "(((a?)?)*)+",
		"(a* | b*)* c", "a (b (c (d e?)?)?)?", "block{2,4} h p{2}", "(h | p h | p p h){2,}", "(a | b | c | d | e){4}",
	} {
		e, _, err := expr.Parse(s)
		if err != api.OK {
			t.Fatal(s, err)
		}
		asTold(t, e, block)
	}
}

// someGroups are groups by chance; their names are types of others', too.
func someGroups(r *rand.Rand) []api.Group {
	var l []api.Group
	for _, name := range []string{"d", "b", "e"}[:r.Intn(4)] {
		g := group(name)
		for _, typ := range []string{"a", "b", "c", "d"} {
			if r.Intn(2) == 0 {
				g.Types = append(g.Types, typ)
			}
		}
		if len(g.Types) > 0 {
			l = append(l, g)
		}
	}
	return l
}

// someExpr is an expression by chance, as a text with all brackets.
func someExpr(r *rand.Rand, deep int) string {
	if deep == 0 || r.Intn(4) == 0 {
		return string(rune('a' + r.Intn(5)))
	}
	x, y := someExpr(r, deep-1), someExpr(r, deep-1)
	switch r.Intn(9) {
	case 0, 1, 2:
		return "(" + x + " " + y + ")"
	case 3, 4:
		return "(" + x + " | " + y + ")"
	}
	return "(" + x + ")" + []string{"*", "+", "?", "{2}", "{0,2}", "{1,2}", "{2,3}", "{2,}"}[r.Intn(8)]
}

// readable are expressions by chance that may be.
func readable(r *rand.Rand, deep int) api.Expr {
	for {
		if e, _, err := expr.Parse(someExpr(r, deep)); err == api.OK {
			return e
		}
	}
}

func TestMachinesByChance(t *testing.T) {
	r := rand.New(rand.NewSource(5))
	for range 4000 {
		asTold(t, readable(r, 1+r.Intn(4)), someGroups(r))
	}
}

func TestMachinesAreTheSameJustIfTheirRowsAre(t *testing.T) {
	r := rand.New(rand.NewSource(6))
	same := 0
	for range 20000 {
		groups := someGroups(r)
		e, f := readable(r, 1+r.Intn(3)), readable(r, 1+r.Intn(3))
		a, _ := match.Make(e, groups)
		b, _ := match.Make(f, groups)
		_, want := lets(a, f, groups)
		if match.Same(a, b) != want || (told(a) == told(b)) != want {
			t.Fatalf("%v and %v, groups %v: machines %s and %s, rows the same: %t", e, f, groups, told(a), told(b), want)
		}
		if want {
			same++
		}
	}
	if same < 300 {
		t.Errorf("only %d are the same", same)
	}
}

// otherwise is a text that lets in the same rows as e.
func otherwise(r *rand.Rand, e api.Expr, groups []api.Group) string {
	var kids []string
	for _, kid := range e.Kids {
		kids = append(kids, "("+otherwise(r, kid, groups)+")")
	}
	switch e.Kind {
	case api.ExprSeq:
		return strings.Join(kids, " ")
	case api.ExprAlt:
		r.Shuffle(len(kids), func(i, k int) { kids[i], kids[k] = kids[k], kids[i] })
		return strings.Join(append(kids, kids[:r.Intn(2)]...), " | ")
	case api.ExprMany:
		return manyOtherwise(r, e.Min, e.Max, kids[0])
	}
	i := slices.IndexFunc(groups, func(g api.Group) bool { return g.Name == e.Name })
	if i < 0 || slices.ContainsFunc(groups, func(g api.Group) bool { return slices.Contains(groups[i].Types, g.Name) }) {
		return e.Name
	}
	return strings.Join(groups[i].Types, " | ")
}

func manyOtherwise(r *rand.Rand, low, high int, kid string) string {
	plain := kid + "{" + strconv.Itoa(low) + "," + strconv.Itoa(high) + "}"
	if high == -1 {
		plain = kid + "{" + strconv.Itoa(low) + ",}"
	}
	switch {
	case r.Intn(3) == 0:
		return plain
	case low == 0 && high == -1:
		return []string{"(" + plain + ")*", "(" + kid + "+)?", kid + "* " + kid + "?", kid + "* " + kid + "*"}[r.Intn(4)]
	case low == 0:
		return "(" + plain + ")?"
	case high == -1:
		return []string{kid + " " + kid + "{" + strconv.Itoa(low-1) + ",}", kid + "* " + strings.Repeat(kid+" ", low)}[r.Intn(2)]
	}
	return strings.Repeat(kid+" ", low) + strings.Repeat("("+kid+")? ", high-low)
}

func TestOneMachineHoweverTold(t *testing.T) {
	r := rand.New(rand.NewSource(7))
	done := 0
	for range 20000 {
		groups := someGroups(r)
		e := readable(r, 1+r.Intn(4))
		f, _, err := expr.Parse(otherwise(r, e, groups))
		if err == api.ErrBad {
			t.Fatalf("%v can't be told otherwise", e)
		}
		if err != api.OK || expr.Same(e, f) {
			continue
		}
		done++
		a, _ := match.Make(e, groups)
		b, _ := match.Make(f, groups)
		if !match.Same(a, b) || len(a.States) == 0 {
			t.Fatalf("%v and %v, groups %v: %s and %s", e, f, groups, told(a), told(b))
		}
	}
	if done < 5000 {
		t.Errorf("only %d were told otherwise", done)
	}
}

func TestOneMachineOfPairs(t *testing.T) {
	for _, pair := range [][2]string{
		{"(p | h)*", "h* (p h*)*"},
		{"p+", "p p*"},
		{"p+", "p* p"},
		{"p?", "p{0,1}"},
		{"p{2,}", "p p+"},
		{"p{2,4}", "p p p? p?"},
		{"block", "h | p"},
		{"block*", "(h | p)*"},
		{"block{2}", "h h | h p | p h | p p"},
		{"(a | b) c", "a c | b c"},
		{"(a b)* a", "a (b a)*"},
		{"(a*)*", "a*"},
		{"(a* b*)*", "(a | b)*"},
		{"a | a", "a"},
		{"block* (h block{10})?", "block*"},
	} {
		if a, b := made(t, pair[0], block...), made(t, pair[1], block...); !match.Same(a, b) {
			t.Errorf("%q: %s; %q: %s", pair[0], told(a), pair[1], told(b))
		}
	}
	for _, pair := range [][2]string{{"p", "h"}, {"p?", "p"}, {"p*", "p+"}, {"p{2}", "p{2,}"}, {"a b", "b a"}, {"block", "h"}, {"", "p?"}, {"p{0,15}", "p{0,16}"}} {
		if a, b := made(t, pair[0], block...), made(t, pair[1], block...); match.Same(a, b) {
			t.Errorf("%q and %q: %s", pair[0], pair[1], told(a))
		}
	}
}

func TestRowsOfMachines(t *testing.T) {
	a := made(t, "block+ li?", block...)
	for s, want := range map[string]bool{"": false, "h": true, "h p": true, "h li": true, "li": false, "h li p": false, "block": false, "h h h p p li": true, "h li li": false} {
		if match.Fits(a, strings.Fields(s)) != want {
			t.Errorf("Fits(%q) is not %t", s, want)
		}
	}
	for _, c := range []struct{ text, rest, may, want string }{
		{"h p", "p", "h", "h"},
		{"h p q", "q", "h p", "h p"},
		{"block+", "", "h p", "h"},
		{"p block*", "", "h p li", "p"},
		{"block{3}", "p", "p h", "h h"},
		{"block{3}", "p", "p", "p p"},
		{"(q | h p)", "", "h p q", "q"},
		{"(q | h p)", "", "h p", "h p"},
		{"(q | h p | p)", "", "p q", "p"},
	} {
		l, ok := match.Fill(made(t, c.text, block...), 0, strings.Fields(c.rest), strings.Fields(c.may))
		if !ok || strings.Join(l, " ") != c.want {
			t.Errorf("Fill of %q, rest %q, may %q: %q, %t", c.text, c.rest, c.may, l, ok)
		}
	}
	if l, ok := match.Fill(made(t, "block", block...), 0, nil, []string{"block", "li"}); ok || len(l) > 0 {
		t.Errorf("a group is none of the types: %q", l)
	}
}

// What is handed in, and what is answered (Rules, 3 and 4).

func TestMakeLeavesAllAsItIs(t *testing.T) {
	kids := append(make([]api.Expr, 0, 4), api.Expr{Kind: api.ExprName, Name: "z"}, api.Expr{Kind: api.ExprName, Name: "block"}, api.Expr{Kind: api.ExprName, Name: "spare"})
	e := api.Expr{Kind: api.ExprSeq, Kids: kids[:2]}
	types := within("h", "p")
	l := append(make([]api.Group, 0, 3), api.Group{Name: "z", Types: within("b", "c")}, api.Group{Name: "block", Types: types}, group("spare"))
	a, err := match.Make(e, l[:2])
	want := "0: b 1, c 1; 1: h 2, p 2; 2: ends"
	if err != api.OK || told(a) != want {
		t.Fatal(told(a), err)
	}
	if match.CheckGroups(l[:2]) != api.OK {
		t.Error("CheckGroups")
	}
	if kids[0].Name != "z" || kids[1].Name != "block" || kids[2].Name != "spare" || l[0].Name != "z" || l[1].Name != "block" || l[2].Name != "spare" {
		t.Errorf("%v, %v", kids, l)
	}
	if !slices.Equal(types[:4], []string{"h", "p", "spare", "room"}) {
		t.Errorf("types have become %q", types[:4])
	}
	types[0] = "x"
	if told(a) != want {
		t.Errorf("the machine has become %s", told(a))
	}
}

func TestMachinesAreNewMemory(t *testing.T) {
	a := made(t, "a (b | c)+ d? (a | b | c)", block...)
	want := told(a)
	for i := range a.States {
		_ = append(a.States[i].Edges, api.Edge{Type: "x", To: -1}, api.Edge{Type: "y", To: -2}, api.Edge{Type: "z", To: -3})
	}
	if told(a) != want {
		t.Errorf("edges share their spare room: %s, want %s", told(a), want)
	}
	for i := range a.States {
		clear(a.States[i].Edges)
	}
	if b := made(t, "a (b | c)+ d? (a | b | c)", block...); told(b) != want {
		t.Errorf("made again: %s, want %s", told(b), want)
	}
}

func TestMakeIsTheSameEachTime(t *testing.T) {
	l := []api.Group{group("x", strings.Split("abcdefgh", "")...), group("y", strings.Split("acegikmo", "")...), group("z", strings.Split("bcfgjkno", "")...)}
	want := told(made(t, "(x y | z x | y z)+", l...))
	for range 50 {
		if got := told(made(t, "(x y | z x | y z)+", l...)); got != want {
			t.Fatalf("%s, then %s", want, got)
		}
	}
}

func FuzzMake(f *testing.F) {
	for _, s := range []string{"", "p", "block+ li?", "(p | h)*", "h* (p h*)*", "p+ (h | li{2,3})*", "block* h block{3}", "(inline | block)*"} {
		f.Add(s, "h p li")
	}
	f.Fuzz(func(t *testing.T, s, types string) {
		groups := []api.Group{group("block", "h", "p"), group("inline", strings.Fields(types)...)}
		e, _, err := expr.Parse(s)
		if err != api.OK || expr.Size(e) > 10 {
			return
		}
		if err := match.CheckGroups(groups); err != api.OK {
			if a, got := match.Make(e, groups); got != err || len(a.States) > 0 {
				t.Fatalf("Make: %v, error %d, want %d", a, got, err)
			}
			return
		}
		asTold(t, e, groups)
	})
}
